/- Texts laid together: Fhb. -/
import Derived.Test.YtjbffpmelglegaaQa75
set_option linter.unusedSimpArgs false
set_option linter.unusedVariables false
set_option linter.unusedSectionVars false
namespace Go.Proofs.Ytjbffpmelglegaa
namespace V
set_option maxRecDepth 100000
open Go.RowKit
/-- The boxes that the search looks into. -/
def HBox (w : World) (be bh : Nat) (e N : Nat) (ta : Option Addr) (tc : Nat) : Prop := w.cell? ⟨be, 0, none⟩ = some (.int .i64 e) ∧ w.cell? ⟨bh, 0, none⟩ = some (.slice ta N tc)
theorem HBox.below {w w' : World} {be bh e N : Nat} {ta : Option Addr} {tc : Nat} (h : HBox w be bh e N ta tc) (hb : Below w.heap.size w w') : HBox w' be bh e N ta tc :=
  ⟨(hb.cell (cell_lt h.1)).trans h.1, (hb.cell (cell_lt h.2)).trans h.2⟩
set_option maxRecDepth 100000 in
set_option maxHeartbeats 2000000 in
theorem isMissing (N : Nat) (ta : Option Addr) (tc be bh : Nat) (pre : List M.Fr) (j e' e : Nat) (p2 p3 : Int) (w : World) (h : Mat w ta N (M.hisM N pre)) (hB : HBox w be bh e N ta tc) (hj : j < N) (he : e' < N) (hN : N ≤ 10) (hlen : pre.length ≤ 500) (h3 : 0 ≤ p3 ∧ p3 ≤ 5) :
    Calls Try.prog 152 #[.agg #[.int .i64 j, .int .i64 e', .int .i64 p2, .int .i64 p3], .pointer (some ⟨be, 0, none⟩), .pointer (some ⟨bh, 0, none⟩)] w fun z w' => z = .returned (.bool (M.missP pre e ((j : Int), (e' : Int), p2, p3))) ∧ Below w.heap.size w w' := by
  have hb0 := b_alloc w (.cells #[.int .i64 j, .int .i64 e', .int .i64 p2, .int .i64 p3] 52)
  obtain ⟨wq, hwq⟩ : ∃ z, z = w.alloc (.cells #[.int .i64 j, .int .i64 e', .int .i64 p2, .int .i64 p3] 52) := ⟨_, rfl⟩
  obtain ⟨k0, k1⟩ := hB.below hb0
  have HC : Hid (Calls Try.prog 75 #[.slice ta N tc, .agg #[.int .i64 j, .int .i64 e', .int .i64 p2, .int .i64 p3]] wq fun z w' => z = .returned (.int .i64 (M.tokF pre ((j : Int), (e' : Int), p2, p3))) ∧ Below wq.heap.size wq w') := tokensIn N ta tc pre j e' p2 p3 wq (by rw [hwq]; exact h.below hb0) hj he hN hlen h3
  obtain ⟨T, hT⟩ : ∃ T, T = M.tokF pre ((j : Int), (e' : Int), p2, p3) := ⟨_, rfl⟩
  have HM : Hid (M.missP pre e ((j : Int), (e' : Int), p2, p3) = (decide ((e' : Int) = (e : Int)) && decide (T = 0))) := by show _ = _; rw [hT]; rfl
  rw [← hT] at HC
  have HB := Lib.hid hb0
  have HWq := Lib.hid hwq.symm
  clear hb0 hT h hwq hB
  by_cases hee : e' = e
  · have hee' : ((e' : Int) == (e : Int)) = true := by simp [hee]
    have HM2 : Hid (M.missP pre e ((j : Int), (e' : Int), p2, p3) = decide (T = 0)) := by show _ = _; rw [HM.out, decide_eq_true (by rw [hee])]; rfl
    clear hee HM
    go_enter Try.func152, Try.ntmps152
    go_wp2_with fail
    rw [HWq.out]
    refine (HC.out).mono ?_
    rintro z w2 ⟨rfl, hb2⟩
    have HB2 : Hid (Below w.heap.size w w2) := by
      have := HB.out
      rw [HWq.out] at this
      exact this.trans (hb2.mono this.size)
    clear hb2 k0 k1
    go_wp2
    go_ret
    refine ⟨?_, HB2.out⟩
    rw [HM2.out]
    by_cases q : T = 0
    · subst q; rfl
    · simp [q]
  · have hee' : ((e' : Int) == (e : Int)) = false := by simp; omega
    have HM2 : Hid (M.missP pre e ((j : Int), (e' : Int), p2, p3) = false) := by show _ = _; rw [HM.out, decide_eq_false (by omega)]; rfl
    clear hee HM
    go_enter Try.func152, Try.ntmps152
    go_wp2
    go_ret
    exact ⟨by rw [HM2.out]; rfl, HB.out⟩
set_option maxRecDepth 100000 in
set_option maxHeartbeats 1000000 in
theorem indexMissing (N : Nat) (ta : Option Addr) (tc be bh : Nat) (pre : List M.Fr) (e : Nat) (a : Option Addr) (n cap : Nat) (l : List M.Pc) (w : World) (h : Pls w a n l) (hg : M.isGr (N : Int) l = true) (hM : Mat w ta N (M.hisM N pre)) (hB : HBox w be bh e N ta tc) (hlen : pre.length ≤ 500) :
    Calls Try.prog 170 #[.slice a n cap, .func (.func 152) #[] #[.pointer (some ⟨be, 0, none⟩), .pointer (some ⟨bh, 0, none⟩)]] w fun z w' => Below w.heap.size w w' ∧
      ((z = .returned (.int .i64 (-1)) ∧ l.all (fun p => !M.missP pre e p) = true) ∨ ∃ j : Nat, z = .returned (.int .i64 j) ∧ l.all (fun p => !M.missP pre e p) = false) := by
  have HI := Lib.hid h
  have HL : Hid (l.length = n) := h.1
  have HG := Lib.hid hg
  have HM := Lib.hid hM
  have HB := Lib.hid hB
  have hN10 := (gr_NF hg).2.1
  have hm := h.2.1
  unfold maxLen at hm
  clear h hg hM hB
  go_enter Try.func170, Try.ntmps170
  go_wp2
  go_loopw [5, 8] (fun _ iv wr => ∃ k : Nat, k ≤ n ∧ iv = .int .i64 k ∧ Hid (∀ j, j < k → (!M.missP pre e (l.getD j M.pz)) = true) ∧ Hid (Below w.heap.size w wr)) (fun _ iv _ => n - (intOf iv).toNat)
  case atStart => exact ⟨0, Nat.zero_le _, rfl, fun j hj => absurd hj (Nat.not_lt_zero j), Below.refl _ _⟩
  case round =>
    obtain ⟨k, hk, rfl, HA, HW⟩ := hrel
    by_cases hkl : k < n
    · have hki : (k : Int) < (n : Int) := by omega
      obtain ⟨b, off, p0, p1, p2, p3, rfl, -, hp, c0, c1, c2, c3⟩ := (HI.out.below HW.out).at k hkl
      obtain ⟨e', j, he', hj, rfl, rfl, -, -, t3, t3'⟩ := gr_atF HG.out (by rw [HL.out]; exact hkl) hp
      have hcall := isMissing N ta tc be bh pre j e' e p2 p3 wr (HM.out.below HW.out) (HB.out.below HW.out) hj he' hN10 hlen ⟨t3, t3'⟩
      obtain ⟨t, ht⟩ : ∃ t, t = M.missP pre e ((j : Int), (e' : Int), p2, p3) := ⟨_, rfl⟩
      have HT : Hid ((!M.missP pre e (l.getD k M.pz)) = !t) := by show _ = _; rw [hp, ht]
      rw [← ht] at hcall
      have HS := Lib.hid HW.out.size
      clear ht hp
      cases t with
      | false =>
        have HCa := Lib.hid hcall
        clear hcall
        go_wp2_with (go_at_call 152; refine (HCa.out).mono ?_; rintro z w' ⟨rfl, hb'⟩)
        go_roundw
        case rel => exact ⟨k + 1, by omega, by go_num, fun i hi => by rcases Nat.lt_or_ge i k with q | q; exact HA.out i q; rw [show i = k by omega]; exact HT.out, HW.out.trans (hb'.mono HS.out)⟩
        case measure => simp [intOf]; omega
      | true =>
        have HCa := Lib.hid hcall
        clear hcall
        go_wp2_with (go_at_call 152; refine (HCa.out).mono ?_; rintro z w' ⟨rfl, hb'⟩)
        go_ret
        exact ⟨HW.out.trans (hb'.mono HS.out), .inr ⟨k, rfl, M.all_no (p := fun p => !M.missP pre e p) (by rw [HL.out]; exact hkl) HT.out⟩⟩
    · obtain rfl : k = n := by omega
      have HE : Hid (l.all (fun p => !M.missP pre e p) = true) := M.all_of (p := fun p => !M.missP pre e p) (fun i hi => HA.out i (by rw [← HL.out]; exact hi))
      go_wp2
      go_ret
      exact ⟨HW.out, .inl ⟨rfl, HE.out⟩⟩
set_option maxRecDepth 100000 in
set_option maxHeartbeats 1000000 in
theorem containsMissing (N : Nat) (ta : Option Addr) (tc be bh : Nat) (pre : List M.Fr) (e : Nat) (a : Option Addr) (n cap : Nat) (l : List M.Pc) (w : World) (v : Bool) (h : Pls w a n l) (hg : M.isGr (N : Int) l = true) (hM : Mat w ta N (M.hisM N pre)) (hB : HBox w be bh e N ta tc) (hlen : pre.length ≤ 500) (hv : M.enB l pre e = v) :
    Calls Try.prog 144 #[.slice a n cap, .func (.func 152) #[] #[.pointer (some ⟨be, 0, none⟩), .pointer (some ⟨bh, 0, none⟩)]] w fun z w' => z = .returned (.bool (!v)) ∧ Below w.heap.size w w' := by
  have HC := Lib.hid (indexMissing N ta tc be bh pre e a n cap l w h hg hM hB hlen)
  rw [M.enB_all] at HC
  have HV := Lib.hid hv
  clear h hg hM hB hv
  go_enter Try.func144, Try.ntmps144
  go_wp2_with fail
  refine (HC.out).mono ?_
  rintro z w1 ⟨hb, ⟨rfl, hall⟩ | ⟨j, rfl, hall⟩⟩
  · rw [HV.out] at hall
    subst hall
    have HB := Lib.hid hb
    clear hb
    go_wp2
    go_ret
    exact ⟨rfl, HB.out⟩
  · rw [HV.out] at hall
    subst hall
    have hj0 : (0 : Int) ≤ (j : Int) := by omega
    have HB := Lib.hid hb
    clear hb
    go_wp2
    go_ret
    exact ⟨rfl, HB.out⟩
set_option maxRecDepth 100000 in
set_option maxHeartbeats 2000000 in
theorem isEnabledE (N : Nat) (a : Option Addr) (n cap : Nat) (l : List M.Pc) (ta : Option Addr) (tc : Nat) (pre : List M.Fr) (e : Nat) (w : World) (h : Pls w a n l) (hg : M.isGr (N : Int) l = true) (hM : Mat w ta N (M.hisM N pre)) (hlen : pre.length ≤ 500) :
    Calls Try.prog 124 #[.agg #[.int .i64 N, .slice a n cap], .slice ta N tc, .int .i64 e] w fun z w' => z = .returned (.bool (M.enB l pre e)) ∧ Below w.heap.size w w' := by
  obtain ⟨v, hv⟩ : ∃ v, M.enB l pre e = v := ⟨_, rfl⟩
  obtain ⟨wq, hwq⟩ : ∃ z, z = ((w.alloc (.cells #[.int .i64 N, .slice a n cap] 41)).alloc (.cells #[.slice ta N tc] 88)).alloc (.cells #[.int .i64 e] 2) := ⟨_, rfl⟩
  have hbq : Below w.heap.size w wq := by rw [hwq]; exact (b_alloc2 w _ _).trans ((b_alloc _ _).mono (by simp; omega))
  have hBx : HBox wq (w.heap.size + 1 + 1) (w.heap.size + 1) e N ta tc := by rw [hwq]; exact ⟨by simp [go_sem], by simp [go_sem]⟩
  have HC : Hid (Calls Try.prog 144 #[.slice a n cap, .func (.func 152) #[] #[.pointer (some ⟨w.heap.size + 1 + 1, 0, none⟩), .pointer (some ⟨w.heap.size + 1, 0, none⟩)]] wq fun z w' => z = .returned (.bool (!v)) ∧ Below wq.heap.size wq w') := containsMissing N ta tc _ _ pre e a n cap l wq v (h.below hbq) hg (hM.below hbq) hBx hlen hv
  rw [hv]
  have HB := Lib.hid hbq
  have HWq := Lib.hid hwq.symm
  clear h hg hM hbq hv hwq hBx
  go_enter Try.func124, Try.ntmps124
  go_wp2_with fail
  rw [HWq.out]
  refine (HC.out).mono ?_
  rintro z w2 ⟨rfl, hb2⟩
  have HB2 := Lib.hid (HB.out.trans (hb2.mono HB.out.size))
  clear hb2
  go_wp2
  go_ret
  exact ⟨by cases v <;> rfl, HB2.out⟩
end V
end Go.Proofs.Ytjbffpmelglegaa
