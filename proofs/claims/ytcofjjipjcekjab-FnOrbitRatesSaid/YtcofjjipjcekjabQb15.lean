/- Texts laid together: Isr, Ism, Ors, Orr, Obp, Sst, Ist. -/
import Derived.Test.YtcofjjipjcekjabQb13
import Derived.Test.YtcofjjipjcekjabQb9
import Derived.Test.YtcofjjipjcekjabQb12
import Derived.Test.YtcofjjipjcekjabQb4
import Derived.Test.YtcofjjipjcekjabQb8
import Derived.Test.YtcofjjipjcekjabQb6
import Derived.StillTailTactics
set_option linter.unusedSimpArgs false
set_option linter.unusedVariables false
set_option linter.unusedSectionVars false
namespace Go.Proofs.Ytcofjjipjcekjab
namespace M
def okAll (R F : List (List Int)) (q : Nat) : Bool := (List.range (q + 1)).all (okQ R F)
theorem okAll_iff {R F : List (List Int)} {q : Nat} : okAll R F q = true ↔ okTo R F q := by
  unfold okAll okTo
  simp only [List.all_eq_true, List.mem_range]
  exact ⟨fun h j hj => h j (by omega), fun h j hj => h j (by omega)⟩
def isrRes (R : List (List Int)) (k c g : Int) : Bool × Int :=
  if sqB R then (if 0 ≤ k ∧ k ≤ 100 ∧ 1 ≤ c ∧ c ≤ 100 - k ∧ isFin g = true then (if okAll R (unitM R.length) (k + c).toNat then (decide (shvL (sq7 R (unitM R.length) k.toNat).flatten g = (sq7 R (unitM R.length) (k + c).toNat).flatten), 0) else (false, 3)) else (false, 2)) else (false, 1)
end M
namespace V
set_option maxRecDepth 100000
open Go.RowKit
def BPost (r : Bool × Int) (w : World) (e : Ending) (w' : World) : Prop :=
  e = .returned (.tuple #[.bool r.1, .int .i64 r.2]) ∧ Below w.heap.size w w'
set_option maxRecDepth 100000 in
set_option maxHeartbeats 1000000 in
theorem isRepeat (a : Option Addr) (n cap : Nat) (R : List (List Int)) (k c g : Int) (w : World) (h : Mat w a n R) : Calls Try.prog 45 #[.slice a n cap, .int .i64 k, .int .i64 c, .int .i64 g] w (BPost (M.isrRes R k c g) w) := by
  have HA := Lib.hid h
  obtain ⟨v2, hv2⟩ : ∃ b, b = M.isFin g := ⟨_, rfl⟩
  have HC : Hid (∀ w, Calls Try.prog 71 #[.int .i64 g] w fun e w' => e = .returned (.bool v2) ∧ w = w') := fun w => by rw [hv2]; exact isFinite g w
  by_cases hs : M.sqB R = true
  · have HS := Lib.hid hs
    have hRn : R.length = n := h.1
    obtain ⟨-, n1, n2, -⟩ := sq_parts7 h hs
    by_cases hc : 0 ≤ k ∧ k ≤ 100 ∧ 1 ≤ c ∧ c ≤ 100 - k ∧ v2 = true
    · obtain ⟨k1, k2, c1, c2, hv⟩ := hc
      subst hv
      obtain ⟨kn, rfl⟩ := Int.eq_ofNat_of_zero_le k1
      obtain ⟨cn, rfl⟩ := Int.eq_ofNat_of_zero_le (show 0 ≤ c by omega)
      obtain ⟨q, hq⟩ : ∃ q, q = kn + cn := ⟨_, rfl⟩
      have hqi : (kn : Int) + (cn : Int) = (q : Int) := by omega
      have HE : Hid (M.isrRes R kn cn g = if M.okAll R (M.unitM n) q then (decide (M.shvL (M.sq7 R (M.unitM n) kn).flatten g = (M.sq7 R (M.unitM n) q).flatten), 0) else (false, 3)) := by
        show _ = _
        unfold M.isrRes
        rw [if_pos hs, if_pos ⟨k1, k2, c1, c2, hv2.symm⟩, hRn, hqi]
        rfl
      have HFg : Hid (M.isFin g = true) := Lib.hid hv2.symm
      have hq1 : (q : Int) ≤ 100 := by omega
      have HQ := Lib.hid hqi
      clear hqi
      have kq1 : ¬ ((kn : Int) < 0) := by omega
      have kq2 : ¬ (100 < (kn : Int)) := by omega
      have kq3 : ¬ ((cn : Int) < 1) := by omega
      have kq4 : ¬ (100 - (kn : Int) < (cn : Int)) := by omega
      clear h hs hRn hv2
      go_enter Try.func45, Try.ntmps45
      go_wp2_with (first | (go_at_call 78; refine (isSquare_b _ _ _ R _ true HS.out HA.out).mono ?_; rintro e w' ⟨rfl, rfl⟩) | (go_at_call 71; refine (HC.out _).mono ?_; rintro e w' ⟨rfl, rfl⟩))
      refine (powersOf _ _ _ R _ HA.out n1 n2).mono ?_
      rintro e w2 ⟨p, rfl, hs⟩
      have HS3 := Lib.hid hs
      clear hs
      go_wp2_with fail
      rw [HQ.out]
      refine (reach w a n cap n R (M.unitM n) p 0 q none _ (serB_unit HA.out HS.out) HS3.out (okTo_unit n1 n2) (by omega)).mono ?_
      rintro e2 w2 (⟨k3, hk3, hk4, -, hok3, hi3, rfl⟩ | ⟨j, hj1, hj2, -, hbad, rfl, hb2, -⟩)
      · have HEq : Hid (M.isrRes R kn cn g = (decide (M.shvL (M.sq7 R (M.unitM n) kn).flatten g = (M.sq7 R (M.unitM n) q).flatten), 0)) := by
          have hall : M.okAll R (M.unitM n) q = true := M.okAll_iff.2 fun j hj => hok3 j (by omega)
          exact Lib.hid (HE.out.trans (if_pos hall))
        obtain ⟨hb3, hp, b1, cc1, g2, cc2, hrow, -, -, hown, -⟩ := id hi3
        have HOw := Lib.hid hown
        have HB3 := Lib.hid hb3
        have s2 : w2.cell? ⟨p, 2, none⟩ = some (.slice (some ⟨g2, 0, none⟩) (k3 + 1) cc2) := World.rowIs.cell hrow (i := 2) (by omega)
        have hke : (kn : Int) < (k3 : Int) + 1 := by omega
        have hee : (q : Int) < (k3 : Int) + 1 := by omega
        have hok1 := hok3 kn (by omega)
        have hok2 := hok3 q hk3
        clear hb3 hrow hown hi3
        go_wp2
        go_quiet (fail)
        go_wp2
        have HOw' : Hid ((w2.drewN nq).ownsRow w.heap.size 90 101 (.slice (some ⟨g2, 0, none⟩) (k3 + 1) cc2) (k3 + 1) (elvs R (M.unitM n) (k3 + 1))) := Lib.hid (ownE_keep HOw.out fun _ _ => rfl)
        have HB4 : Hid (Below w.heap.size w (w2.drewN nq)) := Lib.hid (below_drewN HB3.out nq)
        clear HOw HB3 s2
        generalize w2.drewN nq = w3 at *
        have hx1 := M.isVal_t (M.maxL_vals (M.flat_vals hok1))
        have hx2 := M.isVal_t (M.maxL_vals (M.flat_vals hok2))
        have hL1 := fun m => els_loadV (w := w3.drewN m) (i := kn) (ownE_keep HOw'.out fun _ _ => rfl) (show kn < k3 + 1 by omega)
        have hL2 := fun m => els_loadV (w := w3.drewN m) (i := q) (ownE_keep HOw'.out fun _ _ => rfl) (show q < k3 + 1 by omega)
        have tk : w3.cell? ⟨g2, kn * 101 + 100, none⟩ = some (.int .i64 (M.maxL (M.sq7 R (M.unitM n) kn).flatten)) := els_top HOw'.out (by omega)
        have te : w3.cell? ⟨g2, q * 101 + 100, none⟩ = some (.int .i64 (M.maxL (M.sq7 R (M.unitM n) q).flatten)) := els_top HOw'.out (by omega)
        have heq := fun w => pat_equal w _ _ (M.patC_len _ _) (M.patC_len _ _) (pat_wf hok1) (pat_wf hok2)
        have hSB := serB_unit HA.out HS.out
        have hgb : -10000000 ≤ g ∧ g ≤ 10000000 := by
          have := HFg.out
          unfold M.isFin at this
          simp at this
          omega
        have hfl : (M.sq7 R (M.unitM n) kn).flatten.length = (M.sq7 R (M.unitM n) q).flatten.length := by rw [flat_rect (hSB.sq hok1).1, flat_rect (hSB.sq hok2).1]
        have hsi := M.shv_iff hfl (M.flat_vals hok1) (M.flat_vals hok2) hgb.1 hgb.2
        have hrp := rep_pat hSB hok1 hok2
        obtain ⟨bq, hbq⟩ : ∃ b, b = M.repQ R (M.unitM n) kn q := ⟨_, rfl⟩
        simp only [hrp, ← hbq] at heq
        have HAns : Hid (decide (M.shvL (M.sq7 R (M.unitM n) kn).flatten g = (M.sq7 R (M.unitM n) q).flatten) = (bq && decide (M.times (M.maxL (M.sq7 R (M.unitM n) kn).flatten) g = M.maxL (M.sq7 R (M.unitM n) q).flatten))) := by
          show _ = _
          rw [hbq]
          unfold M.repQ
          by_cases z : M.shvL (M.sq7 R (M.unitM n) kn).flatten g = (M.sq7 R (M.unitM n) q).flatten
          · obtain ⟨z1, z2⟩ := hsi.1 z
            simp [z, z1, z2]
          · have : ¬ (M.nrm (M.sq7 R (M.unitM n) kn).flatten = M.nrm (M.sq7 R (M.unitM n) q).flatten ∧ M.times (M.maxL (M.sq7 R (M.unitM n) kn).flatten) g = M.maxL (M.sq7 R (M.unitM n) q).flatten) := fun e => z (hsi.2 e)
            by_cases z1 : M.nrm (M.sq7 R (M.unitM n) kn).flatten = M.nrm (M.sq7 R (M.unitM n) q).flatten
            · have z2 : ¬ M.times (M.maxL (M.sq7 R (M.unitM n) kn).flatten) g = M.maxL (M.sq7 R (M.unitM n) q).flatten := fun e => this ⟨z1, e⟩
              simp [z, z2]
            · simp [z, z1]
        clear hrp hsi hfl hSB hbq hok1 hok2
        generalize M.patC (M.sq7 R (M.unitM n) kn) (M.maxL (M.sq7 R (M.unitM n) kn).flatten) = P1 at *
        generalize M.patC (M.sq7 R (M.unitM n) q) (M.maxL (M.sq7 R (M.unitM n) q).flatten) = P2 at *
        generalize M.maxL (M.sq7 R (M.unitM n) kn).flatten = x1 at *
        generalize M.maxL (M.sq7 R (M.unitM n) q).flatten = x2 at *
        have te2 : w3.cell? ⟨g2, (kn + cn) * 101 + 100, none⟩ = some (.int .i64 x2) := by rw [← hq]; exact te
        have htm : ∀ m, Calls Try.prog 83 #[.int .i64 x1, .int .i64 g] (w3.drewN m) fun e w' => e = .returned (.int .i64 (M.times x1 g)) ∧ w' = w3.drewN m := fun m => (timesW x1 g _ ⟨by omega, by omega⟩ ⟨by omega, by omega⟩).mono fun e w' h => ⟨h.1, h.2.symm⟩
        generalize M.times x1 g = tg at *
        refine wp_region_quiet_lit (by kernel_rfl) (by kernel_rfl) ?_
        repeat (go_big_quiet_step (fail))
        refine BigFrame.wpQuiet_want rfl (fun K hK => quiet_loadV 87 (.tmp 61) g2 (kn * 101) _ rfl (by go_simp) (fun w hw => by obtain ⟨m, rfl⟩ := hw; exact hL1 m) (hK _ ?_))
        clear hK K
        simp only [Act.put, List.setIfInBounds_toArray, List.set_cons_succ, List.set_cons_zero]
        repeat (go_big_quiet_step (fail))
        refine BigFrame.wpQuiet_want rfl (fun K hK => quiet_loadV 87 (.tmp 65) g2 (q * 101) _ rfl (by go_simp) (fun w hw => by obtain ⟨m, rfl⟩ := hw; exact hL2 m) (hK _ ?_))
        clear hK K
        simp only [Act.put, List.setIfInBounds_toArray, List.set_cons_succ, List.set_cons_zero]
        refine BigFrame.wpQuiet_want rfl (fun K hK => quiet_eqlV 87 87 (.tmp 62) (.tmp 66) _ _ bq rfl (by go_simp) (by go_simp) (by kernel_rfl) (fun w hw => heq w) (hK _ ?_))
        clear hK K
        simp only [Act.put, List.setIfInBounds_toArray, List.set_cons_succ, List.set_cons_zero]
        cases bq with
        | false =>
          repeat (go_big_quiet_step (fail))
          refine wpQuiet_nil ?_
          rintro _ ⟨m, rfl⟩
          go_wp2
          go_ret2
          exact ⟨by rw [HEq.out, HAns.out]; rfl, below_drewN HB4.out m⟩
        | true =>
          repeat (go_big_quiet_step (exact Calls.quiet_of_same (htm _)))
          refine wpQuiet_nil ?_
          rintro _ ⟨m, rfl⟩
          go_wp2
          go_ret2
          exact ⟨by rw [HEq.out, HAns.out]; simp; by_cases z : tg = x2 <;> simp [z], below_drewN HB4.out m⟩
      · have HEq : Hid (M.isrRes R kn cn g = (false, 3)) := by
          have hall : ¬ M.okAll R (M.unitM n) q = true := fun e => by
            have := M.okAll_iff.1 e j hj2
            rw [hbad] at this
            cases this
          exact Lib.hid (HE.out.trans (if_neg hall))
        have HB2 := Lib.hid hb2
        clear hb2 hbad
        go_wp2
        go_ret2
        exact ⟨by rw [HEq.out]; rfl, HB2.out⟩
    · have HE : Hid (M.isrRes R k c g = (false, 2)) := by
        show _ = _
        unfold M.isrRes
        rw [if_pos hs, if_neg (by rw [← hv2]; exact hc)]
      have hh : k < 0 ∨ 100 < k ∨ c < 1 ∨ 100 - k < c ∨ v2 = false := by
        cases v2 with
        | false => exact .inr (.inr (.inr (.inr rfl)))
        | true =>
          have : ¬ (0 ≤ k ∧ k ≤ 100 ∧ 1 ≤ c ∧ c ≤ 100 - k) := fun e => hc ⟨e.1, e.2.1, e.2.2.1, e.2.2.2, rfl⟩
          omega
      clear h hs hRn hv2 hc
      by_cases q1 : k < 0
      · clear hh
        go_enter Try.func45, Try.ntmps45
        go_wp2_with (first | (go_at_call 78; refine (isSquare_b _ _ _ R _ true HS.out HA.out).mono ?_; rintro e w' ⟨rfl, rfl⟩))
        go_ret2
        exact ⟨by rw [HE.out]; rfl, Below.refl _ _⟩
      · by_cases q2 : 100 < k
        · clear hh
          go_enter Try.func45, Try.ntmps45
          go_wp2_with (first | (go_at_call 78; refine (isSquare_b _ _ _ R _ true HS.out HA.out).mono ?_; rintro e w' ⟨rfl, rfl⟩))
          go_ret2
          exact ⟨by rw [HE.out]; rfl, Below.refl _ _⟩
        · by_cases q3 : c < 1
          · clear hh
            go_enter Try.func45, Try.ntmps45
            go_wp2_with (first | (go_at_call 78; refine (isSquare_b _ _ _ R _ true HS.out HA.out).mono ?_; rintro e w' ⟨rfl, rfl⟩))
            go_ret2
            exact ⟨by rw [HE.out]; rfl, Below.refl _ _⟩
          · by_cases q4 : 100 - k < c
            · clear hh
              go_enter Try.func45, Try.ntmps45
              go_wp2_with (first | (go_at_call 78; refine (isSquare_b _ _ _ R _ true HS.out HA.out).mono ?_; rintro e w' ⟨rfl, rfl⟩))
              go_ret2
              exact ⟨by rw [HE.out]; rfl, Below.refl _ _⟩
            · have hv : v2 = false := by
                rcases hh with h | h | h | h | h
                · exact absurd h q1
                · exact absurd h q2
                · exact absurd h q3
                · exact absurd h q4
                · exact h
              subst hv
              clear hh
              go_enter Try.func45, Try.ntmps45
              go_wp2_with (first | (go_at_call 78; refine (isSquare_b _ _ _ R _ true HS.out HA.out).mono ?_; rintro e w' ⟨rfl, rfl⟩) | (go_at_call 71; refine (HC.out _).mono ?_; rintro e w' ⟨rfl, rfl⟩))
              go_ret2
              exact ⟨by rw [HE.out]; rfl, Below.refl _ _⟩
  · have hs' : M.sqB R = false := by simpa using hs
    have HS := Lib.hid hs'
    have HE : Hid (M.isrRes R k c g = (false, 1)) := by show _ = _; unfold M.isrRes; rw [if_neg hs]
    clear h hs hs'
    go_enter Try.func45, Try.ntmps45
    go_wp2_with (go_at_call 78; refine (isSquare_b _ _ _ R _ false HS.out HA.out).mono ?_; rintro e w' ⟨rfl, rfl⟩)
    go_ret2
    exact ⟨by rw [HE.out]; rfl, Below.refl _ _⟩
end V
end Go.Proofs.Ytcofjjipjcekjab

namespace Go.Proofs.Ytcofjjipjcekjab.V
set_option maxRecDepth 100000
open Go.RowKit
set_option maxRecDepth 100000 in
set_option maxHeartbeats 1000000 in
theorem sIsRepeat (a : Option Addr) (n cap : Nat) (R : List (List Int)) (k c g : Int) (w : World) (h : Mat w a n R) : Calls Try.prog 44 #[.slice a n cap, .int .i64 k, .int .i64 c, .int .i64 g] w (BPost (M.isrRes R k c g) w) := by
  have HA := Lib.hid h
  obtain ⟨v2, hv2⟩ : ∃ b, b = M.isFin g := ⟨_, rfl⟩
  obtain ⟨b1, hb1⟩ : ∃ b, b = (decide ((0 : Int) ≤ k) && decide (k ≤ 100)) := ⟨_, rfl⟩
  obtain ⟨b2, hb2⟩ : ∃ b, b = (decide ((1 : Int) ≤ c) && decide (c ≤ 100 - k)) := ⟨_, rfl⟩
  have HC : Hid (∀ w, Calls Try.prog 73 #[.int .i64 g] w fun e w' => e = .returned (.bool v2) ∧ w = w') := fun w => by rw [hv2]; exact sFinite g w
  have HC1 : Hid (∀ w, Calls Try.prog 60 #[.int .i64 k, .int .i64 0, .int .i64 100] w fun e w' => e = .returned (.bool b1) ∧ w = w') := fun w => by rw [hb1]; exact sIn k 0 100 w
  have HC2 : Hid (∀ w, Calls Try.prog 60 #[.int .i64 c, .int .i64 1, .int .i64 (100 - k)] w fun e w' => e = .returned (.bool b2) ∧ w = w') := fun w => by rw [hb2]; exact sIn c 1 (100 - k) w
  by_cases hs : M.sqB R = true
  · have HS := Lib.hid hs
    have hRn : R.length = n := h.1
    obtain ⟨-, n1, n2, -⟩ := sq_parts7 h hs
    have hiff : (0 ≤ k ∧ k ≤ 100 ∧ 1 ≤ c ∧ c ≤ 100 - k ∧ M.isFin g = true) ↔ (b1 = true ∧ b2 = true ∧ v2 = true) := by
      rw [hb1, hb2, hv2]
      simp only [Bool.and_eq_true, decide_eq_true_eq]
      exact ⟨fun e => ⟨⟨e.1, e.2.1⟩, ⟨e.2.2.1, e.2.2.2.1⟩, e.2.2.2.2⟩, fun e => ⟨e.1.1, e.1.2, e.2.1.1, e.2.1.2, e.2.2⟩⟩
    by_cases hc : b1 = true ∧ b2 = true ∧ v2 = true
    · obtain ⟨k1, k2, c1, c2, hfin⟩ := hiff.2 hc
      obtain ⟨e1, e2, e3⟩ := hc
      subst e1 e2 e3
      obtain ⟨kn, rfl⟩ := Int.eq_ofNat_of_zero_le k1
      obtain ⟨cn, rfl⟩ := Int.eq_ofNat_of_zero_le (show 0 ≤ c by omega)
      obtain ⟨q, hq⟩ : ∃ q, q = kn + cn := ⟨_, rfl⟩
      have hqi : (kn : Int) + (cn : Int) = (q : Int) := by omega
      have HQ := Lib.hid hqi
      have HE : Hid (M.isrRes R kn cn g = if M.okAll R (M.unitM n) q then (decide (M.shvL (M.sq7 R (M.unitM n) kn).flatten g = (M.sq7 R (M.unitM n) q).flatten), 0) else (false, 3)) := by
        show _ = _
        unfold M.isrRes
        rw [if_pos hs, if_pos ⟨k1, k2, c1, c2, hfin⟩, hRn, hqi]
        rfl
      have HG : Hid (Wid g) := by
        unfold M.isFin at hfin
        simp at hfin
        exact Lib.hid ⟨by omega, by omega⟩
      have hq1 : q ≤ 100 := by omega
      have hkq : kn ≤ q := by omega
      clear h hs hRn hv2 hb1 hb2 hiff hqi hfin hq
      go_enter Try.func44, Try.ntmps44
      go_wp2_with fail
      refine (sSquare_b _ _ _ R _ true HS.out HA.out).mono ?_
      rintro e w' ⟨rfl, qd, rfl⟩
      go_wp2_with fail
      refine (HC1.out _).mono ?_
      rintro e w' ⟨rfl, rfl⟩
      go_wp2_with fail
      refine (HC2.out _).mono ?_
      rintro e w' ⟨rfl, rfl⟩
      go_wp2_with fail
      refine (HC.out _).mono ?_
      rintro e w' ⟨rfl, rfl⟩
      go_wp2_with fail
      refine (sUnit n _ (by omega)).mono ?_
      rintro e w2 ⟨bu, cu, rfl, ho, hb⟩
      have HO2 := Lib.hid ho
      have HB2 := Lib.hid ((below_drewN (Below.refl w.heap.size w) qd).trans hb)
      clear ho hb
      go_wp2_with fail
      refine (sStart7 w a n cap n R (M.unitM n) bu cu _ HB2.out HO2.out unit_rect n2 n1 n2).mono ?_
      rintro e w3 ⟨p, rfl, hs⟩
      have HS3 := Lib.hid (IsSerG.start hs)
      clear hs
      go_wp2_with fail
      rw [HQ.out]
      refine (sAt7G w a n cap n R (M.unitM n) p 0 q none _ (serB_unit HA.out HS.out) HS3.out (okTo_unit n1 n2) (by omega)).mono ?_
      rintro e4 w4 (⟨k3, hk3, -, -, hok3, hi3, ra, m, rc, rfl, hra, -⟩ | ⟨j, hj1, hj2, -, hbad, rfl, hbl⟩)
      · have hall : M.okAll R (M.unitM n) q = true := M.okAll_iff.2 fun j hj => hok3 j (by omega)
        have HEq : Hid (M.isrRes R kn cn g = (decide (M.shvL (M.sq7 R (M.unitM n) kn).flatten g = (M.sq7 R (M.unitM n) q).flatten), 0)) := Lib.hid (HE.out.trans (if_pos hall))
        have hSB := serB_unit HA.out HS.out
        have hln : (M.sq7 R (M.unitM n) kn).flatten.length = n * n := flat_rect (hSB.sq (hok3 kn (by omega))).1
        have hvl := M.flat_vals (hok3 kn (by omega))
        obtain ⟨hb0, hp, b5, c5, b6, c6, hrow, -, ho2, -⟩ := id hi3
        obtain ⟨g6, q6, rc6, rfl, hcr, hro, -, -⟩ := ho2.rowg kn (by omega) (by rw [M.sqL_get (show kn < k3 + 1 by omega), hln]; exact Nat.mul_pos n1 n1)
        rw [M.sqL_get (show kn < k3 + 1 by omega)] at hcr hro
        have s2 : w4.cell? ⟨p, 2, none⟩ = some (.slice (some ⟨g6, 0, none⟩) (k3 + 1) c6) := World.rowIs.cell hrow (i := 2) (by omega)
        have hke : (kn : Int) < (k3 : Int) + 1 := by omega
        obtain ⟨mm, hmm⟩ : ∃ mm, mm = (M.sq7 R (M.unitM n) kn).flatten.length := ⟨_, rfl⟩
        rw [← hmm] at hcr hro
        have HRo := Lib.hid hro
        have HRa := Lib.hid hra
        have HB4 := Lib.hid hb0
        have hm1 : mm ≤ 1000 := by have := Nat.mul_le_mul n2 n2; omega
        have HWl : Hid (∀ i, i < mm → Wid ((M.sq7 R (M.unitM n) kn).flatten.getD i 0)) := Lib.hid (fun i hi => wid_val (hvl i (by omega)))
        have HM := Lib.hid hmm
        clear hall hSB hln hvl hb0 hrow ho2 hro hra hmm hi3 hok3
        go_wp2_with fail
        refine (sShift7 _ mm rc6 (M.sq7 R (M.unitM n) kn).flatten g _ HRo.out.ints' hm1 HWl.out HG.out).mono ?_
        rintro e w5 ⟨b7, c7, rfl, ho, hb⟩
        have HO7 := Lib.hid ho
        have HB5 := Lib.hid hb
        clear ho hb
        go_wp2_with fail
        refine (sSame _ mm c7 (M.shvL (M.sq7 R (M.unitM n) kn).flatten g) _ m rc (M.sq7 R (M.unitM n) q).flatten _ HO7.out.ints' (HRa.out.below HB5.out)).mono ?_
        rintro e w6 ⟨b, rfl, hbb, q3, rfl⟩
        have HBb := Lib.hid hbb
        clear hbb
        go_wp2
        go_ret2
        exact ⟨by rw [HEq.out, HBb.out.out]; rfl, below_drewN (HB4.out.trans (HB5.out.mono HB4.out.size)) q3⟩
      · have hno : ¬ M.okAll R (M.unitM n) q = true := fun e => by
          have := M.okAll_iff.1 e j hj2
          rw [hbad] at this
          cases this
        have HEq : Hid (M.isrRes R kn cn g = (false, 3)) := Lib.hid (HE.out.trans (if_neg hno))
        have HB4 := Lib.hid hbl
        clear hbl hbad hno
        go_wp2
        go_ret2
        exact ⟨by rw [HEq.out]; rfl, HB4.out⟩
    · have HE : Hid (M.isrRes R k c g = (false, 2)) := by
        show _ = _
        unfold M.isrRes
        rw [if_pos hs, if_neg (fun e => hc (hiff.1 e))]
      have hk : b1 = true → 0 ≤ k ∧ k ≤ 100 := fun e => by rw [hb1] at e; simpa using e
      clear h hs hRn hv2 hb1 hb2 hiff
      cases b1 with
      | false =>
        clear hk
        go_enter Try.func44, Try.ntmps44
        go_wp2_with fail
        refine (sSquare_b _ _ _ R _ true HS.out HA.out).mono ?_
        rintro e w' ⟨rfl, qd, rfl⟩
        go_wp2_with fail
        refine (HC1.out _).mono ?_
        rintro e w' ⟨rfl, rfl⟩
        go_wp2
        go_ret2
        exact ⟨by rw [HE.out]; rfl, below_drewN (Below.refl _ _) qd⟩
      | true =>
        obtain ⟨k1, k2⟩ := hk rfl
        clear hk
        cases b2 with
        | false =>
          go_enter Try.func44, Try.ntmps44
          go_wp2_with fail
          refine (sSquare_b _ _ _ R _ true HS.out HA.out).mono ?_
          rintro e w' ⟨rfl, qd, rfl⟩
          go_wp2_with fail
          refine (HC1.out _).mono ?_
          rintro e w' ⟨rfl, rfl⟩
          go_wp2_with fail
          refine (HC2.out _).mono ?_
          rintro e w' ⟨rfl, rfl⟩
          go_wp2
          go_ret2
          exact ⟨by rw [HE.out]; rfl, below_drewN (Below.refl _ _) qd⟩
        | true =>
          have hv : v2 = false := by
            cases v2 with
            | false => rfl
            | true => exact absurd ⟨rfl, rfl, rfl⟩ hc
          subst hv
          clear hc
          go_enter Try.func44, Try.ntmps44
          go_wp2_with fail
          refine (sSquare_b _ _ _ R _ true HS.out HA.out).mono ?_
          rintro e w' ⟨rfl, qd, rfl⟩
          go_wp2_with fail
          refine (HC1.out _).mono ?_
          rintro e w' ⟨rfl, rfl⟩
          go_wp2_with fail
          refine (HC2.out _).mono ?_
          rintro e w' ⟨rfl, rfl⟩
          go_wp2_with fail
          refine (HC.out _).mono ?_
          rintro e w' ⟨rfl, rfl⟩
          go_wp2
          go_ret2
          exact ⟨by rw [HE.out]; rfl, below_drewN (Below.refl _ _) qd⟩
  · have hs' : M.sqB R = false := by simpa using hs
    have HS := Lib.hid hs'
    have HE : Hid (M.isrRes R k c g = (false, 1)) := by show _ = _; unfold M.isrRes; rw [if_neg hs]
    clear h hs hs'
    go_enter Try.func44, Try.ntmps44
    go_wp2_with (go_at_call 85; refine (sSquare_b _ _ _ R _ false HS.out HA.out).mono ?_; rintro e w' ⟨rfl, qd, rfl⟩)
    go_ret2
    exact ⟨by rw [HE.out]; rfl, below_drewN (Below.refl _ _) qd⟩
end Go.Proofs.Ytcofjjipjcekjab.V

namespace Go.Proofs.Ytcofjjipjcekjab
namespace M
/-- The column of a vector. -/
def colF (n : Nat) (x : List Int) : List (List Int) := mk n 1 fun i _ => x.getD i 0
theorem isVec_iff {l : List Int} (h1 : 1 ≤ l.length) (h2 : l.length ≤ 10) : isVec l = true ↔ ∀ i, i < l.length → isVal (l.getD i 0) = true := ⟨fun h => (isVec_t h).2.2, fun h => isVec_of h1 h2 h⟩
theorem ok_col {R : List (List Int)} {x : List Int} (hx : x.length = R.length) (n1 : 1 ≤ R.length) (n2 : R.length ≤ 10) (k : Nat) : okQ R (colF R.length x) k = isVec (orb R x k) := by
  unfold okQ colF
  rw [sq7_col hx]
  have hl := orb_len hx k
  apply Bool.eq_iff_iff.2
  rw [isVec_iff (by omega) (by omega)]
  constructor
  · intro h i hi
    have := (isMat_t h).2.2.2.2.2 i (by simpa [← hl] using hi) 0 (by rw [mk_wid _ _ _ (by omega)]; omega)
    rw [ent_mk _ _ _ _ _ (by omega) (by omega)] at this
    exact this
  · intro h
    exact isMat_mk n1 n2 (Nat.le_refl _) (by omega) fun i hi j hj => h i (by omega)
theorem sqL_col {R : List (List Int)} {x : List Int} (hx : x.length = R.length) (k : Nat) : sqL R (colF R.length x) k = orbL R x k := List.map_congr_left fun i _ => orb_flat hx i
end M
namespace V
set_option maxRecDepth 100000
open Go.RowKit
set_option maxRecDepth 100000 in
set_option maxHeartbeats 400000 in
theorem sCode7 (a : Option Addr) (n cap : Nat) (R : List (List Int)) (a' : Option Addr) (N cap' : Nat) (l : List Int) (w : World) (h : Mat w a n R) (h' : Ints .i64 w a' N l) :
    Calls Try.prog 59 #[.slice a n cap, .slice a' N cap'] w fun e w' => e = .returned (.int .i64 (M.orbCode R l)) ∧ Below w.heap.size w w' := by
  have HA := Lib.hid h
  have HI := Lib.hid h'
  have hRn : R.length = n := h.1
  have hln : l.length = N := h'.1
  obtain ⟨v1, hv1⟩ : ∃ v, v = M.sqB R := ⟨_, rfl⟩
  have HV1 := Lib.hid hv1.symm
  cases v1 with
  | false =>
    have HE : Hid (M.orbCode R l = 1) := by show _ = _; unfold M.orbCode; rw [← hv1]; rfl
    clear h h' hv1 hRn hln
    go_enter Try.func59, Try.ntmps59
    go_wp2_with (go_at_call 85; refine (sSquare_b _ _ _ R _ false HV1.out HA.out).mono ?_; rintro e w' ⟨rfl, q, rfl⟩)
    go_ret
    rw [HE.out]
    exact ⟨rfl, b_draws _ _⟩
  | true =>
    obtain ⟨v2, hv2⟩ : ∃ v, v = M.isVec l := ⟨_, rfl⟩
    have HV2 := Lib.hid hv2.symm
    cases v2 with
    | false =>
      have HE : Hid (M.orbCode R l = 1) := by show _ = _; unfold M.orbCode; rw [← hv1, ← hv2]; rfl
      clear h h' hv1 hv2 hRn hln
      go_enter Try.func59, Try.ntmps59
      go_wp2_with (first | (go_at_call 85; refine (sSquare_b _ _ _ R _ true HV1.out HA.out).mono ?_; rintro e w' ⟨rfl, q, rfl⟩) | (go_at_call 69; refine (sVector_b _ _ _ l _ false HV2.out (HI.out.below (b_draws _ _))).mono ?_; rintro e w' ⟨rfl, rfl⟩))
      go_ret
      rw [HE.out]
      exact ⟨rfl, b_draws _ _⟩
    | true =>
      by_cases hl : N = n
      · subst hl
        have HE : Hid (M.orbCode R l = 0) := by show _ = _; unfold M.orbCode; rw [← hv1, ← hv2, if_pos (by rfl), if_pos (by omega)]
        clear h h' hv1 hv2 hRn hln
        go_enter Try.func59, Try.ntmps59
        go_wp2_with (first | (go_at_call 85; refine (sSquare_b _ _ _ R _ true HV1.out HA.out).mono ?_; rintro e w' ⟨rfl, q, rfl⟩) | (go_at_call 69; refine (sVector_b _ _ _ l _ true HV2.out (HI.out.below (b_draws _ _))).mono ?_; rintro e w' ⟨rfl, rfl⟩))
        go_ret
        rw [HE.out]
        exact ⟨rfl, b_draws _ _⟩
      · have HE : Hid (M.orbCode R l = 5) := by show _ = _; unfold M.orbCode; rw [← hv1, ← hv2, if_pos (by rfl), if_neg (by omega)]
        have hne : ((N : Int) != (n : Int)) = true := by simp; omega
        clear h h' hv1 hv2 hRn hln
        go_enter Try.func59, Try.ntmps59
        go_wp2_with (first | (go_at_call 85; refine (sSquare_b _ _ _ R _ true HV1.out HA.out).mono ?_; rintro e w' ⟨rfl, q, rfl⟩) | (go_at_call 69; refine (sVector_b _ _ _ l _ true HV2.out (HI.out.below (b_draws _ _))).mono ?_; rintro e w' ⟨rfl, rfl⟩))
        go_ret
        rw [HE.out]
        exact ⟨rfl, b_draws _ _⟩
set_option maxRecDepth 100000 in
set_option maxHeartbeats 400000 in
theorem sColumn7 (a : Option Addr) (n cap : Nat) (l : List Int) (w : World) (h : Ints .i64 w a n l) (n1 : 1 ≤ n) (n2 : n ≤ 10) :
    Calls Try.prog 62 #[.slice a n cap] w (MPost n (M.colF n l) w) := by
  have HI := Lib.hid h
  have HE : Hid (M.mk n 1 (fun i j => M.ent [l] j i) = M.colF n l) := by
    show _ = _
    exact M.mk_congr fun i _ j hj => by obtain rfl : j = 0 := by omega
                                        rfl
  have H1T : Hid (Rect [l] 1 n) := ⟨rfl, fun i hi => by obtain rfl : i = 0 := by omega
                                                        exact h.1⟩
  clear h
  go_enter Try.func62, Try.ntmps62
  go_wp2_with fail
  refine (sTurn _ _ _ n [l] _ (mat_one w _ _ _ l HI.out) H1T.out (by omega) (by omega) n1 n2).mono ?_
  rintro e w1 ⟨a1, cap1, rfl, ho1, hb1⟩
  rw [HE.out] at ho1
  have HB1 := Lib.hid (bel1 hb1)
  have HO1 := Lib.hid (ho1.mono (B' := w.heap.size) (by simp))
  clear ho1 hb1
  go_wp2
  go_ret
  exact ⟨_, _, rfl, HO1.out, HB1.out⟩
theorem serB_col {w : World} {a : Option Addr} {n : Nat} {R : List (List Int)} {x : List Int} (h : Mat w a n R) (hs : M.sqB R = true) : SerB w a n 1 R (M.colF n x) := by
  obtain ⟨hr, n1, n2, hsm⟩ := sq_parts7 h hs
  exact ⟨h, hr, n1, n2, hsm, by unfold M.colF; simp, by unfold M.colF; exact M.mk_wid _ _ _ (by omega), Nat.le_refl _, by omega⟩
set_option maxRecDepth 100000 in
set_option maxHeartbeats 4000000 in
theorem sOrbitOf (a : Option Addr) (n cap : Nat) (R : List (List Int)) (a' : Option Addr) (N cap' : Nat) (l : List Int) (m : Int) (w : World) (h : Mat w a n R) (h' : Ints .i64 w a' N l) :
    Calls Try.prog 17 #[.slice a n cap, .slice a' N cap', .int .i64 m] w (MRes (M.orbRes R l m) w) := by
  have HA := Lib.hid h
  have HI := Lib.hid h'
  obtain ⟨k0, hk0⟩ : ∃ k, k = M.orbCode R l := ⟨_, rfl⟩
  have HK := Lib.hid hk0.symm
  by_cases hk : k0 = 0
  · subst hk
    obtain ⟨hs, hx, hl⟩ := M.orbCode_t hk0.symm
    obtain ⟨hr, n1, n2, hsm⟩ := sq_parts7 h hs
    have hRn : R.length = n := h.1
    have hNn : N = n := by rw [← h'.1, hl]; exact hRn
    subst hNn
    by_cases hm : 0 ≤ m ∧ m ≤ 100
    · obtain ⟨q, rfl⟩ := Int.eq_ofNat_of_zero_le hm.1
      have hq : q ≤ 100 := by omega
      have hd : (decide ((0 : Int) ≤ (q : Int)) && decide ((q : Int) ≤ 100)) = true := by simp; omega
      have HE : Hid (M.orbRes R l (q : Int) = if (M.orbL R l (q + 1)).all M.isVec then (M.orbL R l (q + 1), 0) else ([], 3)) := by show _ = _; unfold M.orbRes; rw [← hk0, if_pos rfl, if_pos hm]; rfl
      have HSB : Hid (∀ w' : World, Below w.heap.size w w' → SerB w' a N 1 R (M.colF N l)) := fun w' hb => serB_col (HA.out.below hb) hs
      have HOc : Hid (∀ k, M.okQ R (M.colF N l) k = M.isVec (M.orb R l k)) := fun k => by rw [← hRn]; exact M.ok_col hl (by omega) (by omega) k
      have HLc : Hid (∀ k, M.sqL R (M.colF N l) k = M.orbL R l k) := fun k => by rw [← hRn]; exact M.sqL_col hl k
      have HFr : Hid (Rect (M.colF N l) N 1) := rect_mk _ _ _
      have H0 : Hid (M.okTo R (M.colF N l) 0) := fun j hj => by
        obtain rfl : j = 0 := by omega
        rw [HOc.out]; exact hx
      clear h h' hk0 hs hx hl hr hsm hRn hm
      go_enter Try.func17, Try.ntmps17
      go_wp2_with (first | (go_at_call 59; refine (sCode7 _ _ _ R _ _ _ l _ HA.out HI.out).mono ?_; rintro e w1 ⟨rfl, hb⟩; have HB1 := Lib.hid hb; clear hb; rw [HK.out]) | (go_at_call 60; refine (sIn _ _ _ _).mono ?_; rintro e w' ⟨rfl, rfl⟩; rw [hd]))
      refine (sColumn7 _ _ _ l _ (HI.out.below HB1.out) n1 n2).mono ?_
      rintro e w2 ⟨b2, c2, rfl, ho, hb⟩
      have HO2 := Lib.hid ho
      have HB2 := Lib.hid hb
      clear ho hb
      go_wp2_with fail
      refine (sStart7 w1 a N cap 1 R (M.colF N l) b2 c2 _ HB2.out HO2.out HFr.out n2 (Nat.le_refl _) (by omega)).mono ?_
      rintro e w3 ⟨p, rfl, hs⟩
      have HS3 := Lib.hid hs
      clear hs
      go_wp2_with fail
      refine (sAt7 w1 a N cap 1 R (M.colF N l) p 0 q _ (HSB.out _ HB1.out) HS3.out H0.out (by omega)).mono ?_
      rintro e w4 (⟨k1, hk1, -, hk2, hok, hs, ra, m4, rc, rfl, -⟩ | ⟨j, hj1, hj2, -, hno, rfl, hb⟩)
      · have hkq : k1 = q := by omega
        subst hkq
        have HAll : Hid ((M.orbL R l (k1 + 1)).all M.isVec = true) := by
          show _ = _
          rw [List.all_eq_true]
          intro x hx
          obtain ⟨i, hi, rfl⟩ := List.mem_map.1 hx
          rw [← HOc.out]
          exact hok i (by have := List.mem_range.1 hi; omega)
        obtain ⟨hb0, hp, b1, c1, b5, c5, hrow, -, ho2⟩ := hs
        rw [HLc.out] at ho2
        have s2 : w4.cell? ⟨p, 2, none⟩ = some (.slice b5 (k1 + 1) c5) := World.rowIs.cell hrow (i := 2) (by omega)
        have HO4 := Lib.hid ho2.toM
        have HB4 := Lib.hid (HB1.out.trans (hb0.mono HB1.out.size))
        clear hb0 hrow ho2 hok
        go_wp2
        go_ret2
        rw [HE.out, HAll.out]
        exact ⟨_, _, _, rfl, HO4.out.mono HB1.out.size, HB4.out⟩
      · have HAll : Hid ((M.orbL R l (q + 1)).all M.isVec = false) := M.orb_all_not (k := j) (by omega) (by rw [← HOc.out]; exact hno)
        have HB4 := Lib.hid (HB1.out.trans (hb.mono HB1.out.size))
        clear hno hb
        go_wp2
        go_ret2
        exact MRes.nil (by rw [HE.out, HAll.out]; rfl) HB4.out
    · have HE : Hid (M.orbRes R l m = ([], 2)) := by show _ = _; unfold M.orbRes; rw [← hk0, if_pos rfl, if_neg hm]
      have hd : (decide ((0 : Int) ≤ m) && decide (m ≤ 100)) = false := by
        cases e : (decide ((0 : Int) ≤ m) && decide (m ≤ 100)) with
        | false => rfl
        | true => simp at e; exact absurd e hm
      clear h h' hk0 hs hx hl hr hsm hRn hm
      go_enter Try.func17, Try.ntmps17
      go_wp2_with (first | (go_at_call 59; refine (sCode7 _ _ _ R _ _ _ l _ HA.out HI.out).mono ?_; rintro e w1 ⟨rfl, hb⟩; have HB1 := Lib.hid hb; clear hb; rw [HK.out]) | (go_at_call 60; refine (sIn _ _ _ _).mono ?_; rintro e w' ⟨rfl, rfl⟩; rw [hd]))
      go_ret2
      exact MRes.nil HE.out HB1.out
  · have HE : Hid (M.orbRes R l m = ([], k0)) := by show _ = _; unfold M.orbRes; rw [← hk0, if_neg hk]
    have hk2 : (k0 != 0) = true := by simpa using hk
    have hk3 : (k0 == 0) = false := by simpa using hk
    clear h h' hk0 hk
    go_enter Try.func17, Try.ntmps17
    go_wp2_with (first | (go_at_call 59; refine (sCode7 _ _ _ R _ _ _ l _ HA.out HI.out).mono ?_; rintro e w1 ⟨rfl, hb⟩; have HB1 := Lib.hid hb; clear hb; rw [HK.out]))
    go_ret2
    exact MRes.nil HE.out HB1.out
end V
end Go.Proofs.Ytcofjjipjcekjab

namespace Go.Proofs.Ytcofjjipjcekjab
namespace M
def orRes (R : List (List Int)) (x : List Int) : Int × Int × Int × Int := if orbCode R x = 0 then fnd R (colF R.length x) else (0, 0, 0, orbCode R x)
end M
namespace V
set_option maxRecDepth 100000
open Go.RowKit
theorem okTo_col {R : List (List Int)} {n : Nat} {x : List Int} (hn : R.length = n) (hx : M.isVec x = true) (hl : x.length = R.length) (n1 : 1 ≤ n) (n2 : n ≤ 10) : M.okTo R (M.colF n x) 0 := fun j hj => by
  obtain rfl : j = 0 := by omega
  rw [← hn, M.ok_col hl (by omega) (by omega) 0]; exact hx
set_option maxRecDepth 100000 in
set_option maxHeartbeats 4000000 in
theorem sOrbitRepeats (a : Option Addr) (n cap : Nat) (R : List (List Int)) (a' : Option Addr) (N cap' : Nat) (l : List Int) (w : World) (h : Mat w a n R) (h' : Ints .i64 w a' N l) :
    Calls Try.prog 42 #[.slice a n cap, .slice a' N cap'] w (QPost (M.orRes R l) w) := by
  have HA := Lib.hid h
  have HI := Lib.hid h'
  obtain ⟨k0, hk0⟩ : ∃ k, k = M.orbCode R l := ⟨_, rfl⟩
  have HK := Lib.hid hk0.symm
  by_cases hk : k0 = 0
  · subst hk
    obtain ⟨hs, hx, hl⟩ := M.orbCode_t hk0.symm
    obtain ⟨hr, n1, n2, hsm⟩ := sq_parts7 h hs
    have hRn : R.length = n := h.1
    have hNn : N = n := by rw [← h'.1, hl]; exact hRn
    subst hNn
    have HE : Hid (M.orRes R l = M.fnd R (M.colF N l)) := by show _ = _; unfold M.orRes; rw [← hk0, if_pos rfl, hRn]
    have HSB : Hid (∀ w' : World, Below w.heap.size w w' → SerB w' a N 1 R (M.colF N l)) := fun w' hb => serB_col (HA.out.below hb) hs
    have HFr : Hid (Rect (M.colF N l) N 1) := rect_mk _ _ _
    have H0 : Hid (M.okTo R (M.colF N l) 0) := Lib.hid (okTo_col hRn hx hl n1 n2)
    clear h h' hk0 hs hx hl hr hsm hRn
    go_enter Try.func42, Try.ntmps42
    go_wp2_with (go_at_call 59; refine (sCode7 _ _ _ R _ _ _ l _ HA.out HI.out).mono ?_; rintro e w1 ⟨rfl, hb⟩; have HB1 := Lib.hid hb; clear hb; rw [HK.out])
    refine (sColumn7 _ _ _ l _ (HI.out.below HB1.out) n1 n2).mono ?_
    rintro e w2 ⟨b2, c2, rfl, ho, hb⟩
    have HO2 := Lib.hid ho
    have HB2 := Lib.hid hb
    clear ho hb
    go_wp2_with fail
    refine (sStart7 w1 a N cap 1 R (M.colF N l) b2 c2 _ HB2.out HO2.out HFr.out n2 (Nat.le_refl _) (by omega)).mono ?_
    rintro e w3 ⟨p, rfl, hs⟩
    have HS3 := Lib.hid hs
    clear hs
    go_wp2_with fail
    refine (sFind w1 a N cap 1 R (M.colF N l) p _ (HSB.out _ HB1.out) HS3.out H0.out).mono ?_
    rintro e w4 ⟨s, c, g, d, hf, rfl, hb, -⟩
    have HF := Lib.hid (HE.out.trans hf)
    have HB4 := Lib.hid (HB1.out.trans (hb.mono HB1.out.size))
    clear hf hb
    go_wp2
    exact bodyPost_ret (v := .tuple #[.int .i64 s, .int .i64 c, .int .i64 g, .int .i64 d]) (by simp [results, Try.results42, go_sem]) rfl ⟨by rw [HF.out], HB4.out⟩
  · have HE : Hid (M.orRes R l = (0, 0, 0, k0)) := by show _ = _; unfold M.orRes; rw [← hk0, if_neg hk]
    clear h h' hk0
    go_enter Try.func42, Try.ntmps42
    go_wp2_with (go_at_call 59; refine (sCode7 _ _ _ R _ _ _ l _ HA.out HI.out).mono ?_; rintro e w1 ⟨rfl, hb⟩; have HB1 := Lib.hid hb; clear hb; rw [HK.out])
    go_wp2
    exact bodyPost_ret (v := .tuple #[.int .i64 0, .int .i64 0, .int .i64 0, .int .i64 k0]) (by simp [results, Try.results42, go_sem]) rfl ⟨by rw [HE.out], HB1.out⟩
/-- The elements of a sequence, in whatever world. -/
def IsElr (w0 w : World) (p : Nat) (R F : List (List Int)) (k : Nat) : Prop :=
  ∃ v0 v1 g2 c2, w.rowIs p 93 3 (serF v0 v1 (.slice (some ⟨g2, 0, none⟩) (k + 1) c2)) ∧ w.ownsRow w0.heap.size 90 101 (.slice (some ⟨g2, 0, none⟩) (k + 1) c2) (k + 1) (elvs R F (k + 1))
def ORPost (R : List (List Int)) (l : List Int) (w : World) (e : Ending) (w' : World) : Prop :=
  ∃ (s c g d : Int) (pv : Value), M.orRes R l = (s, c, g, d) ∧ e = .returned (.tuple #[pv, .agg #[.int .i64 s, .int .i64 c, .int .i64 g], .int .i64 d]) ∧ Below w.heap.size w w' ∧
    (d = 0 → ∃ (wb : World) (p i j k : Nat), pv = .pointer (some ⟨p, 0, none⟩) ∧ s = i ∧ c = j ∧ 1 ≤ j ∧ i + j ≤ k ∧ i + j ≤ 100 ∧ M.okTo R (M.colF R.length l) k ∧ IsElr wb w' p R (M.colF R.length l) k)
theorem orb_res (tmps : Array Value) (w : World) (r : Nat) (x y z d : Int) (pv : Value) (h4 : tmps.getD 4 undef = pv) (h5 : tmps.getD 5 undef = .pointer (some ⟨r, 0, none⟩)) (h6 : tmps.getD 6 undef = .int .i64 d) (hg : w.heap[r]? = some (.cells #[.int .i64 x, .int .i64 y, .int .i64 z] 81 (0, 0))) :
    (results Try.f64 tmps).run Try.prog w = .ok (.tuple #[pv, .agg #[.int .i64 x, .int .i64 y, .int .i64 z], .int .i64 d]) w := by
  have hs : (Try.prog.info? 81).map (·.size) = some 3 := by kernel_rfl
  have := run_loadVar_row (P := Try.prog) w r 81 81 #[.int .i64 x, .int .i64 y, .int .i64 z] (0, 0) _ hg Try.underlying81 rfl hs
  have hr : Try.f64.results = #[.tmp 4, .cell 5 81, .tmp 6] := rfl
  have h4' : tmps[4]?.getD undef = pv := by simpa using h4
  have h5' : tmps[5]?.getD undef = .pointer (some ⟨r, 0, none⟩) := by simpa using h5
  have h6' : tmps[6]?.getD undef = .int .i64 d := by simpa using h6
  simp only [results, hr]
  simp [Sem.run_bind, Result.andThen, h4', h5', h6', asAddr, this]
theorem IsEls.keep {w0 w w' : World} {p k : Nat} {R F : List (List Int)} (h : IsEls w0 w p R F k) (hb : w0.heap.size ≤ w'.heap.size) (hp : w0.heap.size ≤ p) (hk : ∀ j, w0.heap.size ≤ j → j < w.heap.size → w'.heap[j]? = w.heap[j]?) : IsElr w0 w' p R F k := by
  obtain ⟨-, v0, v1, g, c, h1, h2⟩ := h
  exact ⟨v0, v1, g, c, World.rowIs.of_block h1 (hk p hp (World.rowIs.lt h1)), ownE_keep h2 fun j hj => hk j (World.ownsRow.lt h2 j hj).1 (World.ownsRow.lt h2 j hj).2⟩
set_option maxRecDepth 100000 in
set_option maxHeartbeats 4000000 in
theorem orbitRepeat (a : Option Addr) (n cap : Nat) (R : List (List Int)) (a' : Option Addr) (N cap' : Nat) (l : List Int) (w : World) (h : Mat w a n R) (h' : Ints .i64 w a' N l) :
    Calls Try.prog 64 #[.slice a n cap, .slice a' N cap'] w (ORPost R l w) := by
  obtain ⟨wa, hwa⟩ : ∃ x, x = w.alloc (.cells #[.int .i64 0, .int .i64 0, .int .i64 0] 81) := ⟨_, rfl⟩
  have hbw : Below w.heap.size w wa := by rw [hwa]; exact b_alloc _ _
  have hgw : wa.heap[w.heap.size]? = some (.cells #[.int .i64 0, .int .i64 0, .int .i64 0] 81 (0, 0)) := by rw [hwa]; exact heap_alloc_last _ _
  have hsz : wa.heap.size = w.heap.size + 1 := by rw [hwa]; simp
  have HA := Lib.hid (h.below hbw)
  have HI := Lib.hid (h'.below hbw)
  have HBw := Lib.hid hbw
  have HGw := Lib.hid hgw
  have HWA := Lib.hid hwa
  have HSz := Lib.hid hsz
  clear hwa hsz hgw hbw
  obtain ⟨k0, hk0⟩ : ∃ k, k = M.orbCode R l := ⟨_, rfl⟩
  have HK := Lib.hid hk0.symm
  by_cases hk : k0 = 0
  · subst hk
    obtain ⟨hs, hx, hl⟩ := M.orbCode_t hk0.symm
    obtain ⟨hr, n1, n2, hsm⟩ := sq_parts7 h hs
    have hRn : R.length = n := h.1
    have hNn : N = n := by rw [← h'.1, hl]; exact hRn
    subst hNn
    have HE : Hid (M.orRes R l = M.fnd R (M.colF R.length l)) := by show _ = _; unfold M.orRes; rw [← hk0, if_pos rfl]
    have HFc : Hid (M.colF R.length l = M.colF N l) := by show _ = _; rw [hRn]
    have HSB : Hid (SerB wa a N 1 R (M.colF N l)) := Lib.hid (serB_col HA.out hs)
    have HFr : Hid (Rect (M.colF N l) N 1) := rect_mk _ _ _
    have H0 : Hid (M.okTo R (M.colF N l) 0) := Lib.hid (okTo_col hRn hx hl n1 n2)
    have HVl : Hid (∀ i j, i < N → j < 1 → M.isVal (M.ent (M.colF N l) i j) = true) := Lib.hid (HSB.out.sq (k := 0) (H0.out 0 (Nat.le_refl _))).2
    have H1T : Hid (Rect [l] 1 N) := ⟨rfl, fun i hi => by obtain rfl : i = 0 := by omega
                                                          exact h'.1⟩
    have HE1 : Hid (M.mk N 1 (fun i j => M.ent [l] j i) = M.colF N l) := by
      show _ = _
      unfold M.colF
      exact M.mk_congr fun i _ j hj => by obtain rfl : j = 0 := by omega
                                          rfl
    clear h h' hk0 hs hx hl hr hsm hRn
    go_enter Try.func64, Try.ntmps64
    go_wp2_with (go_at_call 55; rw [← HWA.out]; refine (orbitCode _ _ _ R _ _ _ l _ HA.out HI.out).mono ?_; rintro e w1 ⟨rfl, rfl⟩; rw [HK.out])
    refine (transposed _ _ _ N [l] _ (mat_one wa _ _ _ l HI.out) H1T.out (by omega) (by omega) n1 n2).mono ?_
    rintro e w2 ⟨b2, c2, rfl, ho, hb⟩
    rw [HE1.out] at ho
    have HB2 := Lib.hid (bel1 hb)
    have HO2 := Lib.hid ho
    clear ho hb
    go_wp2_with fail
    refine (sequenceFrom wa a N cap 1 R (M.colF N l) b2 c2 _ HB2.out (HO2.out.mono (b_alloc wa _).size) HFr.out n1 n2 (Nat.le_refl _) (by omega) HVl.out).mono ?_
    rintro e w3 ⟨p, rfl, hs⟩
    have HS3 := Lib.hid hs
    clear hs
    go_wp2_with fail
    refine (firstRepeat wa a N cap 1 R (M.colF N l) p _ HSB.out HS3.out H0.out).mono ?_
    rintro e w4 ⟨s, c, g, d, hf, rfl, hb, hels⟩
    have HF : Hid (M.orRes R l = (s, c, g, d)) := Lib.hid (HE.out.trans (by rw [HFc.out]; exact hf))
    have hpq := HS3.out.2.1
    have HB4 := Lib.hid hb
    have HEls := Lib.hid hels
    have HG4 := Lib.hid ((hb.block w.heap.size (by have := HSz.out; omega)).trans HGw.out)
    clear hf hb hels
    go_wp2
    obtain ⟨w5, hw5⟩ : ∃ x, x = w4.alloc (.cells #[.int .i64 s, .int .i64 c, .int .i64 g] 81) := ⟨_, rfl⟩
    obtain ⟨q, hq⟩ : ∃ q, q = w4.heap.size := ⟨_, rfl⟩
    have hb5 : Below w4.heap.size w4 w5 := by rw [hw5]; exact b_alloc _ _
    have HL5 : Hid (w5.heap[q]? = some (.cells #[.int .i64 s, .int .i64 c, .int .i64 g] 81 (0, 0))) := Lib.hid (by rw [hw5, hq]; exact heap_alloc_last _ _)
    have HG5 := Lib.hid ((hb5.block w.heap.size (by have := HSz.out; have := HB4.out.size; omega)).trans HG4.out)
    have HB5 := Lib.hid (HB4.out.trans (hb5.mono HB4.out.size))
    have HK5 : Hid (∀ j, j < w4.heap.size → w5.heap[j]? = w4.heap[j]?) := Lib.hid (fun j hj => hb5.block j hj)
    rw [← hw5, ← hq]
    obtain ⟨⟨z0, z1, z2⟩, f0, f1, f2⟩ := res_facts HG5.out
    have l0 : w5.cell? ⟨q, 0, none⟩ = some (.int .i64 s) := by rw [cell_of_row _ _ _ _ _ _ HL5.out]; rfl
    have l1 : w5.cell? ⟨q, 1, none⟩ = some (.int .i64 c) := by rw [cell_of_row _ _ _ _ _ _ HL5.out]; rfl
    have l2 : w5.cell? ⟨q, 2, none⟩ = some (.int .i64 g) := by rw [cell_of_row _ _ _ _ _ _ HL5.out]; rfl
    clear hw5 hq hb5
    go_region
    all_goals go_wp2
    all_goals
      have hle : w.heap.size ≤ w.heap.size := Nat.le_refl _
      have HBf := Lib.hid (HBw.out.trans (HB5.out.mono (by have := HSz.out; omega)))
      refine bodyPost_ret (orb_res _ _ w.heap.size s c g d (.pointer (some ⟨p, 0, none⟩)) rfl rfl rfl (res_heap HG5.out _ _ _)) rfl ⟨s, c, g, d, _, HF.out, rfl, ?_, fun hd => ?_⟩
      · exact (((HBf.out.setCell hle _).setCell hle _).setCell hle _).drew
      · obtain ⟨i, j, k, h1, h2, h3, h4, h5, h6, h7⟩ := HEls.out hd
        rw [HFc.out]
        refine ⟨wa, p, i, j, k, rfl, h1, h2, h3, h4, h5, h6, h7.keep ?_ hpq fun t ht1 ht2 => ?_⟩
        · have := HB5.out.size; simpa using this
        · have htn : t ≠ w.heap.size := by have := HSz.out; omega
          exact (((Below.heap_setCell _ _ _ _ htn).trans (Below.heap_setCell _ _ _ _ htn)).trans (Below.heap_setCell _ _ _ _ htn)).trans (HK5.out t ht2)
  · have HE : Hid (M.orRes R l = (0, 0, 0, k0)) := by show _ = _; unfold M.orRes; rw [← hk0, if_neg hk]
    clear h h' hk0
    obtain ⟨⟨z0, z1, z2⟩, f0, f1, f2⟩ := res_facts HGw.out
    go_enter Try.func64, Try.ntmps64
    go_wp2_with (go_at_call 55; rw [← HWA.out]; refine (orbitCode _ _ _ R _ _ _ l _ HA.out HI.out).mono ?_; rintro e w1 ⟨rfl, rfl⟩; rw [HK.out])
    go_wp2
    have hle : w.heap.size ≤ w.heap.size := Nat.le_refl _
    exact bodyPost_ret (orb_res _ _ w.heap.size 0 0 0 k0 (.pointer none) rfl rfl rfl (res_heap HGw.out _ _ _)) rfl ⟨0, 0, 0, k0, _, HE.out, rfl, ((HBw.out.setCell hle _).setCell hle _).setCell hle _, fun h => absurd h hk⟩
end V
end Go.Proofs.Ytcofjjipjcekjab

namespace Go.Proofs.Ytcofjjipjcekjab
namespace M
theorem orb_vals {R : List (List Int)} {x : List Int} {k : Nat} (hx : x.length = R.length) (h : okQ R (mk R.length 1 fun i _ => x.getD i 0) k = true) : Vals (orb R x k) := by
  intro i hi
  unfold okQ at h
  rw [sq7_col hx] at h
  have hl := orb_len hx k
  have := (isMat_t h).2.2.2.2.2 i (by simp; omega) 0 (by rw [mk_wid _ _ _ (by omega)]; omega)
  rw [ent_mk _ _ _ _ _ (by omega) (by omega)] at this
  exact this
theorem stRes_t {R : List (List Int)} {x : List Int} (h : (stRes R x).2 = 0) : ∃ y : List Int, isVec (nrm y) = true ∧ Vals y ∧ stRes R x = (nrm y, 0) := by
  unfold stRes at h ⊢
  by_cases h1 : orbCode R x = 0
  · rw [if_pos h1] at h ⊢
    obtain ⟨hs, hx, hl⟩ := orbCode_t h1
    by_cases h2 : (fnd R (mk R.length 1 fun i _ => x.getD i 0)).2.2.2 = 0
    · rw [if_pos h2] at h ⊢
      by_cases h3 : isVec (nrm (orb R x (fnd R (mk R.length 1 fun i _ => x.getD i 0)).1.toNat)) = true
      · rw [if_pos h3]
        have hok0 : okQ R (mk R.length 1 fun i _ => x.getD i 0) 0 = true := by
          obtain ⟨x1, x2, x3⟩ := isVec_t hx
          exact isMat_mk (by omega) (by omega) (by omega) (by omega) fun i hi j _ => x3 i (by omega)
        have hf : ∃ s c g, fnd R (mk R.length 1 fun i _ => x.getD i 0) = (s, c, g, 0) := ⟨_, _, _, Prod.ext rfl (Prod.ext rfl (Prod.ext rfl h2))⟩
        obtain ⟨s, c, g, hf⟩ := hf
        obtain ⟨i, e, q1, -, -, -, -, -, q2, -⟩ := out_spec 100 0 rfl hok0 hf
        rw [hf]
        rw [hf] at h3
        refine ⟨_, h3, ?_, rfl⟩
        show Vals (orb R x s.toNat)
        rw [q1, Int.toNat_natCast]
        exact orb_vals hl q2
      · rw [if_neg h3] at h; simp at h
    · rw [if_neg h2] at h; exact absurd h h2
  · rw [if_neg h1] at h; exact absurd h h1
theorem all_vals {x : List Int} (h : isVec x = true) : x.all isVal = true := by
  unfold isVec at h
  simp only [Bool.and_eq_true] at h
  exact h.2
/-- The greatest element of a steady state is 0 or Bottom. -/
theorem st_top {y : List Int} (hv : Vals y) (h : isVec (nrm y) = true) : sumM (nrm y) = (0, 0) ∨ sumM (nrm y) = (-1000000000000000, 0) := by
  have hl := (isVec_t h).2.1
  have e : sumM (nrm y) = (maxL (nrm y), 0) := by
    unfold sumM
    rw [if_neg (by omega), if_pos (all_vals h)]
  rw [e]
  by_cases hB : maxL y = -1000000000000000
  · rw [nrm_bot hB hv, hB]; exact .inr rfl
  · refine .inl ?_
    have m1 := isVal_t (maxL_vals hv)
    have hge := maxL_low (nrm y)
    rcases maxL_mem y with q | ⟨i, hi, q⟩
    · exact absurd q hB
    · have e1 : (nrm y).getD i 0 = 0 := by
        unfold nrm
        rw [shv_get hi, q]
        unfold times
        split <;> omega
      have h1 := maxL_ge (x := nrm y) (i := i) (by rw [nrm_len]; exact hi)
      rcases maxL_mem (nrm y) with p | ⟨j, hj, p⟩
      · omega
      · rw [nrm_len] at hj
        have e2 : (nrm y).getD j 0 = times (y.getD j 0) (-(maxL y)) := by unfold nrm; rw [shv_get hj]
        have e3 := maxL_ge hj
        have v := isVal_t (hv j hj)
        have : maxL (nrm y) = 0 := by
          rw [← p, e2]
          rw [← p, e2] at h1
          unfold times at h1 ⊢
          split at h1 <;> split <;> omega
        rw [this]
/-- Each element of an orbit that is told is the matrix times the one before. -/
theorem orb_step {R : List (List Int)} {x : List Int} {n : Int} (h : (orbRes R x n).2 = 0) : 0 ≤ n ∧ n ≤ 100 ∧ orbRes R x n = (orbL R x (n.toNat + 1), 0) ∧ ∀ k, k < n.toNat → vecRes R ((orbL R x (n.toNat + 1)).getD k []) = ((orbL R x (n.toNat + 1)).getD (k + 1) [], 0) := by
  unfold orbRes at h ⊢
  by_cases h1 : orbCode R x = 0
  · rw [if_pos h1] at h ⊢
    obtain ⟨hs, hx, hl⟩ := orbCode_t h1
    by_cases h2 : 0 ≤ n ∧ n ≤ 100
    · rw [if_pos h2] at h ⊢
      by_cases h3 : (orbL R x (n.toNat + 1)).all isVec = true
      · rw [if_pos h3]
        refine ⟨h2.1, h2.2, rfl, fun k hk => ?_⟩
        rw [orbL_get (by omega), orbL_get (by omega)]
        obtain ⟨hm, hw⟩ := sqB_t hs
        have v1 := orb_all h3 (i := k) (by omega)
        have v2 := orb_all h3 (i := k + 1) (by omega)
        unfold vecRes
        rw [hm, v1, if_pos (by rfl), if_pos (by rw [orb_len hl]; exact hw.symm)]
        show (if isVec (orb R x (k + 1)) = true then (orb R x (k + 1), (0 : Int)) else ([], 3)) = _
        rw [if_pos v2]
      · rw [if_neg h3] at h; simp at h
    · rw [if_neg h2] at h; simp at h
  · rw [if_neg h1] at h; exact absurd h h1
end M
end Go.Proofs.Ytcofjjipjcekjab

namespace Go.Proofs.Ytcofjjipjcekjab
namespace M
theorem stRes_of {R : List (List Int)} {x : List Int} (h : orbCode R x = 0) : stRes R x = if (fnd R (colF R.length x)).2.2.2 = 0 then (if isVec (nrm (orb R x (fnd R (colF R.length x)).1.toNat)) then (nrm (orb R x (fnd R (colF R.length x)).1.toNat), 0) else ([], 3)) else ([], (fnd R (colF R.length x)).2.2.2) := by
  unfold stRes
  rw [if_pos h]
  rfl
theorem take_max {X : List Int} {q : Nat} (h : q < X.length) : maxL (X.take (q + 1)) = max (maxL (X.take q)) (X.getD q 0) := by rw [take_snoc X q h, maxL_snoc]
end M
namespace V
set_option maxRecDepth 100000
open Go.RowKit
set_option maxRecDepth 100000 in
set_option maxHeartbeats 4000000 in
theorem sSteadyState (a : Option Addr) (n cap : Nat) (R : List (List Int)) (a' : Option Addr) (N cap' : Nat) (l : List Int) (w : World) (h : Mat w a n R) (h' : Ints .i64 w a' N l) :
    Calls Try.prog 20 #[.slice a n cap, .slice a' N cap'] w (VRes (M.stRes R l) w) := by
  have HA := Lib.hid h
  have HI := Lib.hid h'
  obtain ⟨k0, hk0⟩ : ∃ k, k = M.orbCode R l := ⟨_, rfl⟩
  have HK := Lib.hid hk0.symm
  by_cases hk : k0 = 0
  · subst hk
    obtain ⟨hs, hx, hl⟩ := M.orbCode_t hk0.symm
    obtain ⟨hr, n1, n2, hsm⟩ := sq_parts7 h hs
    have hRn : R.length = n := h.1
    have hNn : N = n := by rw [← h'.1, hl]; exact hRn
    subst hNn
    have HE := Lib.hid (M.stRes_of hk0.symm)
    have HSB : Hid (∀ w' : World, Below w.heap.size w w' → SerB w' a N 1 R (M.colF N l)) := fun w' hb => serB_col (HA.out.below hb) hs
    have HFr : Hid (Rect (M.colF N l) N 1) := rect_mk _ _ _
    have H0 : Hid (M.okTo R (M.colF N l) 0) := Lib.hid (okTo_col hRn hx hl n1 n2)
    have HL := Lib.hid (show l.length = R.length from hl)
    have HRn := Lib.hid hRn
    clear h h' hk0 hs hx hl hr hsm hRn
    go_enter Try.func20, Try.ntmps20
    go_wp2_with (go_at_call 59; refine (sCode7 _ _ _ R _ _ _ l _ HA.out HI.out).mono ?_; rintro e w1 ⟨rfl, hb⟩; have HB1 := Lib.hid hb; clear hb; rw [HK.out])
    refine (sColumn7 _ _ _ l _ (HI.out.below HB1.out) n1 n2).mono ?_
    rintro e w2 ⟨b2, c2, rfl, ho, hb⟩
    have HO2 := Lib.hid ho
    have HB2 := Lib.hid hb
    clear ho hb
    go_wp2_with fail
    refine (sStart7 w1 a N cap 1 R (M.colF N l) b2 c2 _ HB2.out HO2.out HFr.out n2 (Nat.le_refl _) (by omega)).mono ?_
    rintro e w3 ⟨p, rfl, hs⟩
    have HS3 := Lib.hid hs
    clear hs
    go_wp2_with fail
    refine (sFind w1 a N cap 1 R (M.colF N l) p _ (HSB.out _ HB1.out) HS3.out H0.out).mono ?_
    rintro e w4 ⟨s, c, g, d, hf, rfl, hb, hser⟩
    have HB4 := Lib.hid (HB1.out.trans (hb.mono HB1.out.size))
    have HE4 : Hid (M.stRes R l = if d = 0 then (if M.isVec (M.nrm (M.orb R l s.toNat)) then (M.nrm (M.orb R l s.toNat), 0) else ([], 3)) else ([], d)) := by
      show _ = _
      rw [HE.out, HRn.out, hf]
    by_cases hd : d = 0
    · subst hd
      obtain ⟨kn, cn, k, rfl, rfl, c1, hk, hk2, hok, hsr⟩ := hser rfl
      have hokn : M.okQ R (M.colF N l) kn = true := hok kn (by omega)
      have hvec : M.isVec (M.orb R l kn) = true := by
        rw [← HRn.out, M.ok_col HL.out (by have := HRn.out; omega) (by have := HRn.out; omega)] at hokn
        exact hokn
      have hfl : (M.sq7 R (M.colF N l) kn).flatten = M.orb R l kn := by rw [← HRn.out]; exact M.orb_flat HL.out kn
      have hlen : (M.orb R l kn).length = N := (M.orb_len HL.out kn).trans HRn.out
      obtain ⟨hb0, hp, b5, c5, b6, c6, hrow, -, ho2⟩ := id hsr
      obtain ⟨g6, q6, rc6, rfl, hcr, hro6, -, -⟩ := ho2.rowg kn (by omega) (by rw [M.sqL_get (show kn < k + 1 by omega), hfl, hlen]; omega)
      rw [M.sqL_get (show kn < k + 1 by omega), hfl, hlen] at hcr hro6
      have s2 : w4.cell? ⟨p, 2, none⟩ = some (.slice (some ⟨g6, 0, none⟩) (k + 1) c6) := World.rowIs.cell hrow (i := 2) (by omega)
      have HE5 : Hid (M.stRes R l = if M.isVec (M.nrm (M.orb R l kn)) then (M.nrm (M.orb R l kn), 0) else ([], 3)) := by
        show _ = _
        rw [HE4.out, if_pos rfl, Int.toNat_natCast]
      have hkk : (kn : Int) < (k : Int) + 1 := by omega
      have HRo := Lib.hid hro6
      have HVc := Lib.hid hvec
      have HB5 := Lib.hid hb0
      clear hser hf hb hok hsr hb0 hrow ho2 hro6 hokn hvec hfl
      generalize M.orb R l kn = X at *
      have HXl := Lib.hid hlen
      clear hlen
      have hvs : M.Vals X := fun i hi => (M.isVec_t HVc.out).2.2 i hi
      have hmx := M.isVal_t (M.maxL_vals hvs)
      go_wp2
      go_loop [12, 13] (fun m i => ∃ q : Nat, q ≤ N ∧ i = .int .i64 q ∧ m = .int .i64 (M.maxL (X.take q))) (fun _ i => N - (intOf i).toNat)
      case atStart => exact ⟨0, Nat.zero_le _, rfl, rfl⟩
      case round =>
        obtain ⟨q, hq, rfl, rfl⟩ := hrel
        by_cases hlt : q < N
        · have hck := HRo.out.cellAt q hlt
          have hqi : (q : Int) < (N : Int) := by omega
          have HM := Lib.hid (M.take_max (X := X) (q := q) (by have := HXl.out; omega))
          generalize X.getD q 0 = x at *
          generalize M.maxL (X.take q) = m at *
          go_wp2
          all_goals
            go_round
            case rel => exact ⟨q + 1, by omega, by go_num, by rw [HM.out]; first | rfl | (congr 1; omega)⟩
            case measure => simp [intOf]; omega
        · obtain rfl : q = N := by omega
          have HT : Hid (X.take q = X) := M.take_all X q (by have := HXl.out; omega)
          rw [HT.out]
          by_cases hB : M.maxL X = -1000000000000000
          · have HN : Hid (M.stRes R l = (X, 0)) := by
              have e := M.nrm_bot hB hvs
              show _ = _
              rw [HE5.out, e, HVc.out]
              rfl
            rw [hB]
            clear hB hmx
            go_wp2_with (go_at_call 67; refine (sOwn _ _ _ X _ HRo.out.ints' (by omega) (by omega)).mono ?_; rintro e w7 ⟨b7, c7, rfl, ho7, hb7⟩; have HO7 := Lib.hid ho7; have HB7 := Lib.hid hb7; clear ho7 hb7)
            go_ret2
            rw [HN.out]
            exact ⟨_, _, _, rfl, HO7.out.mono HB4.out.size, HB4.out.trans (HB7.out.mono HB4.out.size)⟩
          · have hwl : ∀ i, i < q → Wid (X.getD i 0) := fun i hi => wid_val (hvs i (by have := HXl.out; omega))
            have hwg : Wid (-(M.maxL X)) := ⟨by omega, by omega⟩
            obtain ⟨bv, hbv⟩ : ∃ b, b = M.isVec (M.nrm X) := ⟨_, rfl⟩
            have HBv := Lib.hid hbv.symm
            have HN : Hid (M.shvL X (-(M.maxL X)) = M.nrm X) := Lib.hid rfl
            rw [← hbv] at HE5
            generalize M.maxL X = m at *
            have hBn : (m == -1000000000000000) = false := by simpa using hB
            clear hbv
            go_wp2_with (go_at_call 68; refine (sShift7 _ _ _ X (-m) _ HRo.out.ints' (by omega) hwl hwg).mono ?_; rintro e w7 ⟨b7, c7, rfl, ho7, hb7⟩; rw [HN.out] at ho7; have HO7 := Lib.hid ho7; have HB7 := Lib.hid hb7; clear ho7 hb7)
            refine (sVector_b _ _ _ _ _ bv HBv.out HO7.out.ints').mono ?_
            rintro e w' ⟨rfl, rfl⟩
            cases bv with
            | true =>
              go_wp2
              go_ret2
              rw [HE5.out]
              exact ⟨_, _, _, rfl, HO7.out.mono HB4.out.size, HB4.out.trans (HB7.out.mono HB4.out.size)⟩
            | false =>
              go_wp2
              go_ret2
              exact VRes.nil HE5.out (HB4.out.trans (HB7.out.mono HB4.out.size))
    · have HE5 : Hid (M.stRes R l = ([], d)) := Lib.hid (HE4.out.trans (if_neg hd))
      clear hser hf hb
      go_wp2
      go_ret2
      exact VRes.nil HE5.out HB4.out
  · have HE : Hid (M.stRes R l = ([], k0)) := by show _ = _; unfold M.stRes; rw [← hk0, if_neg hk]
    clear h h' hk0
    go_enter Try.func20, Try.ntmps20
    go_wp2_with (go_at_call 59; refine (sCode7 _ _ _ R _ _ _ l _ HA.out HI.out).mono ?_; rintro e w1 ⟨rfl, hb⟩; have HB1 := Lib.hid hb; clear hb; rw [HK.out])
    go_wp2
    go_ret2
    exact VRes.nil HE.out HB1.out
end V
end Go.Proofs.Ytcofjjipjcekjab

namespace Go.Proofs.Ytcofjjipjcekjab
namespace V
set_option maxRecDepth 100000
open Go.RowKit
theorem els_row10 {w : World} {B k i r g c : Nat} {R F : List (List Int)} (h : w.ownsRow B 90 101 (.slice (some ⟨g, 0, none⟩) k c) k (elvs R F k)) (hi : i < k) (hr : r < 10) :
    w.rangeAt g (i * 101 + r * 10) ((List.range 10).map fun t => Value.int .i64 ((M.patC (M.sq7 R F i) (M.maxL (M.sq7 R F i).flatten)).getD (r * 10 + t) 0)) := fun j v hv => by
  have hj : j < 10 := by
    have := (List.getElem?_eq_some_iff.1 hv).1
    simpa using this
  have e : i * 101 + r * 10 + j = i * 101 + (r * 10 + j) := by omega
  have hl := M.patC_len (M.sq7 R F i) (M.maxL (M.sq7 R F i).flatten)
  rw [e, World.ownsRow.cellAt h _ (by omega), elvs_at R F i (r * 10 + j) (by omega) k hi, elV_pat (by omega)]
  rw [List.getElem?_map, List.getElem?_range hj, Option.map_some] at hv
  rw [List.getElem?_map, List.getElem?_eq_getElem (by omega)]
  rw [List.getD_eq_getElem?_getD, List.getElem?_eq_getElem (by omega)] at hv
  exact hv
set_option maxRecDepth 100000 in
set_option maxHeartbeats 4000000 in
theorem steadyState (a : Option Addr) (n cap : Nat) (R : List (List Int)) (a' : Option Addr) (N cap' : Nat) (l : List Int) (w : World) (h : Mat w a n R) (h' : Ints .i64 w a' N l) :
    Calls Try.prog 19 #[.slice a n cap, .slice a' N cap'] w (VRes (M.stRes R l) w) := by
  have HA := Lib.hid h
  have HI := Lib.hid h'
  have HNl := Lib.hid h'.1
  go_enter Try.func19, Try.ntmps19
  go_wp2_with fail
  refine (orbitRepeat _ _ _ R _ _ _ l _ HA.out HI.out).mono ?_
  rintro e w4 ⟨s, c, g, d, pv, hor, rfl, hb, hels⟩
  have HB4 := Lib.hid hb
  by_cases hd : d = 0
  · subst hd
    have hk0 : M.orbCode R l = 0 := by
      by_cases z : M.orbCode R l = 0
      · exact z
      · unfold M.orRes at hor
        rw [if_neg z] at hor
        simp at hor
        exact absurd hor.2.2.2 z
    obtain ⟨wb, p, kn, cn, k, rfl, rfl, rfl, c1, hk, hk2, hok, hsr⟩ := hels rfl
    obtain ⟨hs, hx, hl⟩ := M.orbCode_t hk0
    obtain ⟨hr, n1, n2, hsm⟩ := sq_parts7 h hs
    have hRn : R.length = n := h.1
    have hNn : N = n := by rw [← h'.1, hl]; exact hRn
    subst hNn
    have hokn : M.okQ R (M.colF R.length l) kn = true := hok kn (by omega)
    have hvec : M.isVec (M.orb R l kn) = true := by
      rw [M.ok_col hl (by omega) (by omega)] at hokn
      exact hokn
    have hlen : (M.orb R l kn).length = N := (M.orb_len hl kn).trans hRn
    have hE5 : M.stRes R l = if M.isVec (M.nrm (M.orb R l kn)) then (M.nrm (M.orb R l kn), 0) else ([], 3) := by
      rw [M.stRes_of hk0]
      have hf : M.fnd R (M.colF R.length l) = ((kn : Int), (cn : Int), g, 0) := by
        unfold M.orRes at hor
        rw [if_pos hk0] at hor
        exact hor
      rw [hf, if_pos rfl, Int.toNat_natCast]
    have HE5 := Lib.hid hE5
    have hpc : ∀ i, i < N → (M.patC (M.sq7 R (M.colF R.length l) kn) (M.maxL (M.sq7 R (M.colF R.length l) kn).flatten)).getD (i * 10) 0 = (M.nrm (M.orb R l kn)).getD i 0 := fun i hi => M.pat_col hl (by omega) (by omega)
    obtain ⟨v0, v1, g3, c3, hrow, hown⟩ := hsr
    have HOw := Lib.hid hown
    have s2 : w4.cell? ⟨p, 2, none⟩ = some (.slice (some ⟨g3, 0, none⟩) (k + 1) c3) := World.rowIs.cell hrow (i := 2) (by omega)
    have hpl : p < w4.heap.size := World.rowIs.lt hrow
    have hkk : (kn : Int) < (k : Int) + 1 := by omega
    have hknl : kn ≤ 100 := by omega
    have hN10 : (N : Int) ≤ 10 := by omega
    obtain ⟨Y, hY⟩ : ∃ Y, Y = M.nrm (M.orb R l kn) := ⟨_, rfl⟩
    rw [← hY] at hE5 hpc
    have hYl : Y.length = N := by rw [hY, M.nrm_len]; exact hlen
    have HY : Hid (Y = (List.range N).map fun j => Y.getD j 0) := Lib.hid (M.list_ext0 (by simp [hYl]) fun i hi => by simp [show i < N by omega])
    have HEy := Lib.hid hE5
    have HPc := Lib.hid hpc
    obtain ⟨bv, hbv⟩ : ∃ b, b = M.isVec Y := ⟨_, rfl⟩
    have HBv := Lib.hid hbv.symm
    obtain ⟨P, hP⟩ : ∃ P, P = M.patC (M.sq7 R (M.colF R.length l) kn) (M.maxL (M.sq7 R (M.colF R.length l) kn).flatten) := ⟨_, rfl⟩
    have HRg : Hid (∀ (wx : World) (i : Nat), i < 10 → (∀ j, j < w4.heap.size → wx.heap[j]? = w4.heap[j]?) → wx.rangeAt g3 (kn * 101 + i * 10) ((List.range 10).map fun t => Value.int .i64 (P.getD (i * 10 + t) 0))) := Lib.hid fun wx i hi hk => by
      rw [hP]
      exact els_row10 (ownE_keep HOw.out fun j hj => hk j (World.ownsRow.lt HOw.out j hj).2) (by omega) hi
    rw [← hP] at HPc
    have hmk := run_make_row' (P := Try.prog) 25 2 (.int .i64 0) 8 Try.underlying25 info64 rfl .i64 .i64 N (by omega) (by omega)
    clear hels hor hok hs hx hl hr hsm hRn hokn hvec hlen hE5 HE5 hpc hrow hown hb h h' hY hYl hbv hP hk0 HOw HNl
    go_wp2
    obtain ⟨w6, hw6⟩ : ∃ x, x = (w4.alloc (.cells #[.int .i64 kn, .int .i64 cn, .int .i64 g] 81)).alloc (.cells (madeCells #[.int .i64 0] N) 2) := ⟨_, rfl⟩
    have hsz : (w4.alloc (.cells #[.int .i64 kn, .int .i64 cn, .int .i64 g] 81)).heap.size = w4.heap.size + 1 := by simp
    have hO6 : Own w6 w4.heap.size (.slice (some ⟨w4.heap.size + 1, 0, none⟩) N N) ((List.range N).map fun _ => 0) := by
      have := own_made (w4.alloc (.cells #[.int .i64 kn, .int .i64 cn, .int .i64 g] 81)) w4.heap.size N (by simp) (by unfold maxLen; omega)
      rw [hsz, ← hw6] at this
      exact this
    have hB6 : Below w4.heap.size w4 w6 := by
      rw [hw6]
      exact (b_alloc w4 _).alloc (by simp) _
    have HO6 := Lib.hid hO6
    have HB6 := Lib.hid hB6
    have HW6 := Lib.hid hw6
    clear hO6 hB6 hsz hw6
    go_region
    go_wp2
    rw [← HW6.out]
    clear HW6
    go_loopw [10, 11, 37] (fun _ _ i wr => ∃ q : Nat, q ≤ N ∧ i = .int .i64 q ∧ Hid (Own wr w4.heap.size (.slice (some ⟨w4.heap.size + 1, 0, none⟩) N N) (vPart N (fun j => Y.getD j 0) q)) ∧ Hid (Below w4.heap.size w4 wr)) (fun _ _ i _ => N - (intOf i).toNat)
    case atStart => exact ⟨0, Nat.zero_le _, rfl, by rw [vPart_zero]; exact Lib.hid (HO6.out.drew), Lib.hid HB6.out.drew⟩
    case round =>
      obtain ⟨q, hq, rfl, HO, HB⟩ := hrel
      clear HO6 HB6
      by_cases hlt : q < N
      · have hqi : (q : Int) < (N : Int) := by omega
        have hrg := HRg.out wr q (by omega) (fun j hj => HB.out.block j hj)
        have hy := HPc.out q hlt
        have r0 : wr.cell? ⟨g3, kn * 101 + q * 10, none⟩ = some (.int .i64 (P.getD (q * 10) 0)) := hrg 0 _ rfl
        rw [hy] at r0
        have r1 : wr.cell? ⟨g3, kn * 101 + q * 10 + 1, none⟩ = some (.int .i64 (P.getD (q * 10 + 1) 0)) := hrg 1 _ rfl
        generalize P.getD (q * 10 + 1) 0 = y1 at r1
        have r2 : wr.cell? ⟨g3, kn * 101 + q * 10 + 2, none⟩ = some (.int .i64 (P.getD (q * 10 + 2) 0)) := hrg 2 _ rfl
        generalize P.getD (q * 10 + 2) 0 = y2 at r2
        have r3 : wr.cell? ⟨g3, kn * 101 + q * 10 + 3, none⟩ = some (.int .i64 (P.getD (q * 10 + 3) 0)) := hrg 3 _ rfl
        generalize P.getD (q * 10 + 3) 0 = y3 at r3
        have r4 : wr.cell? ⟨g3, kn * 101 + q * 10 + 4, none⟩ = some (.int .i64 (P.getD (q * 10 + 4) 0)) := hrg 4 _ rfl
        generalize P.getD (q * 10 + 4) 0 = y4 at r4
        have r5 : wr.cell? ⟨g3, kn * 101 + q * 10 + 5, none⟩ = some (.int .i64 (P.getD (q * 10 + 5) 0)) := hrg 5 _ rfl
        generalize P.getD (q * 10 + 5) 0 = y5 at r5
        have r6 : wr.cell? ⟨g3, kn * 101 + q * 10 + 6, none⟩ = some (.int .i64 (P.getD (q * 10 + 6) 0)) := hrg 6 _ rfl
        generalize P.getD (q * 10 + 6) 0 = y6 at r6
        have r7 : wr.cell? ⟨g3, kn * 101 + q * 10 + 7, none⟩ = some (.int .i64 (P.getD (q * 10 + 7) 0)) := hrg 7 _ rfl
        generalize P.getD (q * 10 + 7) 0 = y7 at r7
        have r8 : wr.cell? ⟨g3, kn * 101 + q * 10 + 8, none⟩ = some (.int .i64 (P.getD (q * 10 + 8) 0)) := hrg 8 _ rfl
        generalize P.getD (q * 10 + 8) 0 = y8 at r8
        have r9 : wr.cell? ⟨g3, kn * 101 + q * 10 + 9, none⟩ = some (.int .i64 (P.getD (q * 10 + 9) 0)) := hrg 9 _ rfl
        generalize P.getD (q * 10 + 9) 0 = y9 at r9
        obtain ⟨v, hst⟩ : ∃ v, wr.cell? ⟨w4.heap.size + 1, q, none⟩ = some v := ⟨_, HO.out.cellAt q hlt⟩
        have hfz := HO.out.frozenAt q
        have hlw : w4.heap.size + 1 < wr.heap.size := (own_lt HO.out (show (Value.slice (some ⟨w4.heap.size + 1, 0, none⟩) N N).ownBlock = some (w4.heap.size + 1) from rfl)).2
        have hlo := HB.out.size
        obtain ⟨x, hx⟩ : ∃ x, x = Y.getD q 0 := ⟨_, rfl⟩
        have HN : Hid (Own (wr.setCell ⟨w4.heap.size + 1, q, none⟩ (.int .i64 x)) w4.heap.size (.slice (some ⟨w4.heap.size + 1, 0, none⟩) N N) (vPart N (fun j => Y.getD j 0) (q + 1))) := by
          show Own _ _ _ _
          have := Own.set HO.out q x
          rw [hx, vPart_set N (fun j => Y.getD j 0) q, ← hx] at this
          exact this
        rw [← hx] at r0
        clear hrg hy hx
        go_wp2
        go_roundw
        case rel => exact ⟨q + 1, by omega, by go_num, Lib.hid (HN.out.below (b_alloc _ _)), Lib.hid ((HB.out.setCell (by show w4.heap.size ≤ w4.heap.size + 1; omega) _).alloc (by simp; omega) _)⟩
        case measure => simp [intOf]; omega
      · obtain rfl : q = N := by omega
        have hOY : Own wr w4.heap.size (.slice (some ⟨w4.heap.size + 1, 0, none⟩) q q) Y := by
          have e : vPart q (fun j => Y.getD j 0) q = Y := (vPart_end _ _).trans HY.out.symm
          have := HO.out
          rw [e] at this
          exact this
        have HOY := Lib.hid hOY
        have HBf := Lib.hid (HB4.out.trans (HB.out.mono HB4.out.size))
        have hz := HB4.out.size
        clear hOY
        cases bv with
        | true =>
          have HE6 : Hid (M.stRes R l = (Y, 0)) := by
            show _ = _
            rw [HEy.out, HBv.out]; rfl
          go_wp2_with fail
          refine (checkedVector_t _ _ _ Y _ HBv.out HOY.out.ints').mono ?_
          rintro e w' ⟨rfl, rfl⟩
          go_wp2
          go_ret2
          rw [HE6.out]
          exact ⟨_, _, _, rfl, HOY.out.mono hz, HBf.out⟩
        | false =>
          have HE6 : Hid (M.stRes R l = ([], 3)) := by
            show _ = _
            rw [HEy.out, HBv.out]; rfl
          go_wp2_with fail
          refine (checkedVector_f _ _ _ Y _ HBv.out HOY.out.ints').mono ?_
          rintro e w' ⟨rfl, rfl⟩
          go_wp2
          go_ret2
          exact VRes.nil HE6.out HBf.out
  · have HE5 : Hid (M.stRes R l = ([], d)) := by
      show _ = _
      by_cases z : M.orbCode R l = 0
      · rw [M.stRes_of z]
        unfold M.orRes at hor
        rw [if_pos z] at hor
        rw [hor, if_neg hd]
      · unfold M.stRes
        unfold M.orRes at hor
        rw [if_neg z] at hor ⊢
        simp at hor
        rw [hor.2.2.2]
    clear hor hels hb h h'
    go_wp2
    go_ret2
    exact VRes.nil HE5.out (HB4.out.alloc HB4.out.size _)
end V
end Go.Proofs.Ytcofjjipjcekjab
