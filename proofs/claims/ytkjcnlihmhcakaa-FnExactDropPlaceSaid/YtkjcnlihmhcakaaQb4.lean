/- Texts laid together: Gre, OpenP. -/
import Derived.Test.YtkjcnlihmhcakaaQb3
import Derived.Test.YtkjcnlihmhcakaaQb2
import Derived.Deep.Slices
import Derived.Deep.Fields
import Derived.Lib.SmallJoins
import Derived.ChangeArms
set_option linter.unusedSimpArgs false
set_option linter.unusedVariables false
set_option linter.unusedSectionVars false
namespace Go.Proofs.Ytkjcnlihmhcakaa
namespace V
set_option maxRecDepth 100000
open Go.RowKit
theorem ev_wrap {x : Int} (h : M.inB x 1 10 = true) : wrap64 (x - 1) = x - 1 := by
  unfold M.inB at h
  simp at h
  exact IntWalk.wrap64_in _ ⟨by omega, by omega⟩
theorem isGr_sp {x : Int} {l : List M.Pc} (h : ∀ i, i < l.length → M.plW (wrap64 (x - 1)) (l.getD i M.pz) = true) : M.isGr x l = (M.inB x 1 10 && decide (l.length ≤ 30)) := by
  unfold M.isGr
  cases he : M.inB x 1 10 with
  | false => rfl
  | true =>
    rw [← ev_wrap he, M.all_of h]
    simp
theorem isGr_no {x : Int} {l : List M.Pc} {i : Nat} (hi : i < l.length) (h : M.plW (wrap64 (x - 1)) (l.getD i M.pz) = false) : M.isGr x l = false := by
  unfold M.isGr
  cases he : M.inB x 1 10 with
  | false => rfl
  | true =>
    rw [← ev_wrap he, M.all_no hi h]
    simp
/-- The box of a graph. -/
def GBox (w : World) (g : Nat) (x : Int) (a : Option Addr) (n cap : Nat) : Prop := w.cell? ⟨g, 0, none⟩ = some (.int .i64 x) ∧ w.cell? ⟨g, 1, none⟩ = some (.slice a n cap)
theorem GBox.below {w w' : World} {g : Nat} {x : Int} {a : Option Addr} {n cap : Nat} (h : GBox w g x a n cap) (hb : Below w.heap.size w w') : GBox w' g x a n cap :=
  ⟨(hb.cell (cell_lt h.1)).trans h.1, (hb.cell (cell_lt h.2)).trans h.2⟩
theorem gBox_new (w : World) (x : Int) (a : Option Addr) (n cap : Nat) (t : TypeId) : GBox (w.alloc (.cells #[.int .i64 x, .slice a n cap] t)) w.heap.size x a n cap := ⟨by simp [go_sem], by simp [go_sem]⟩
set_option maxRecDepth 100000 in
set_option maxHeartbeats 2000000 in
theorem sIsEventGraph (x : Int) (a : Option Addr) (n cap : Nat) (l : List M.Pc) (w : World) (h : Pls w a n l) :
    Calls Try.prog 26 #[.agg #[.int .i64 x, .slice a n cap]] w fun e w' => e = .returned (.bool (M.isGr x l)) ∧ Below w.heap.size w w' := by
  have HI := Lib.hid h
  have HL : Hid (l.length = n) := h.1
  have hm := h.2.1
  unfold maxLen at hm
  have HP : Hid (∀ p0 p1 p2 p3 w, Calls Try.prog 60 #[.agg #[.int .i64 p0, .int .i64 p1, .int .i64 p2, .int .i64 p3], .int .i64 x] w fun e w' => e = .returned (.bool (M.plW (wrap64 (x - 1)) (p0, p1, p2, p3))) ∧ Below w.heap.size w w') := fun p0 p1 p2 p3 w => sPlace p0 p1 p2 p3 x w
  have HNo : Hid (∀ i, i < n → M.plW (wrap64 (x - 1)) (l.getD i M.pz) = false → M.isGr x l = false) := fun i hi q => isGr_no (by rw [HL.out]; exact hi) q
  have HSp : Hid ((∀ i, i < n → M.plW (wrap64 (x - 1)) (l.getD i M.pz) = true) → M.isGr x l = (M.inB x 1 10 && decide (n ≤ 30))) := fun q => by rw [isGr_sp (fun i hi => q i (by rw [← HL.out]; exact hi)), HL.out]
  have HG0 : Hid (GBox (w.alloc (.cells #[.int .i64 x, .slice a n cap] 26)) w.heap.size x a n cap) := gBox_new _ _ _ _ _ _
  have HB0 : Hid (Below w.heap.size w (w.alloc (.cells #[.int .i64 x, .slice a n cap] 26))) := b_alloc w _
  obtain ⟨r, hr⟩ : ∃ r, r = M.isGr x l := ⟨_, rfl⟩
  rw [← hr] at HNo HSp ⊢
  clear h hr
  go_enter Try.func26, Try.ntmps26
  go_wp2
  go_loopw [3] (fun kv wr => ∃ k : Nat, k ≤ n ∧ kv = .int .i64 k ∧ Hid (∀ i, i < k → M.plW (wrap64 (x - 1)) (l.getD i M.pz) = true) ∧ Hid (GBox wr w.heap.size x a n cap) ∧ Hid (Below w.heap.size w wr)) (fun kv _ => n - (intOf kv).toNat)
  case atStart => exact ⟨0, Nat.zero_le _, rfl, fun i hi => absurd hi (Nat.not_lt_zero i), HG0, HB0⟩
  case round =>
    obtain ⟨k, hk, rfl, HA, HG, HB⟩ := hrel
    obtain ⟨wo, rfl⟩ : ∃ x, x = wr := ⟨_, rfl⟩
    clear HG0 HB0
    obtain ⟨g0, g1⟩ := HG.out
    by_cases hkl : k < n
    · have hki : (k : Int) < (n : Int) := by omega
      obtain ⟨b, off, p0, p1, p2, p3, rfl, -, hp, c0, c1, c2, c3⟩ := (HI.out.below HB.out).at k hkl
      obtain ⟨v, hv⟩ : ∃ v, v = M.plW (wrap64 (x - 1)) (p0, p1, p2, p3) := ⟨_, rfl⟩
      have HC : Hid (∀ w, Calls Try.prog 60 #[.agg #[.int .i64 p0, .int .i64 p1, .int .i64 p2, .int .i64 p3], .int .i64 x] w fun e w' => e = .returned (.bool v) ∧ Below w.heap.size w w') := fun w => by rw [hv]; exact HP.out p0 p1 p2 p3 w
      have HV : Hid (M.plW (wrap64 (x - 1)) (l.getD k M.pz) = v) := by show _ = _; rw [hp, hv]
      have HS := Lib.hid HB.out.size
      clear hp hv
      cases v with
      | true =>
        go_wp2
        go_region_with (first | (go_at_call 60; refine (HC.out _).mono ?_; rintro e w2 ⟨rfl, hb2⟩))
        all_goals
          have HB2 : Hid (Below wo.heap.size wo w2) := (b_draws wo 1).trans (hb2.mono (by simp))
          have HG2 := Lib.hid (HG.out.below HB2.out)
          go_wp2
          go_roundw
          case rel => exact ⟨k + 1, by omega, by go_num, fun i hi => by rcases Nat.lt_or_ge i k with q | q; exact HA.out i q; rw [show i = k by omega]; exact HV.out, HG2, HB.out.trans (HB2.out.mono HS.out)⟩
          case measure => simp [intOf]; omega
      | false =>
        have HR := HNo.out k hkl HV.out
        subst HR
        go_wp2
        go_region_with (first | (go_at_call 60; refine (HC.out _).mono ?_; rintro e w2 ⟨rfl, hb2⟩))
        all_goals
          have HB2 : Hid (Below w.heap.size w w2) := (HB.out.trans ((b_draws wo 1).mono HS.out)).trans (hb2.mono (by simpa using HS.out))
          go_wp2
          go_ret
          exact ⟨rfl, HB2.out⟩
    · obtain rfl : k = n := by omega
      have HR := Lib.hid (HSp.out HA.out)
      cases h0 : (decide (1 ≤ x) && decide (x ≤ 10)) with
      | false =>
        have HE : r = false := by rw [HR.out]; unfold M.inB; rw [h0]; rfl
        subst HE
        go_wp2_with (go_at_call 56; refine (sIn _ _ _ _).mono ?_; rintro e w' ⟨rfl, rfl⟩)
        go_ret
        exact ⟨rfl, HB.out⟩
      | true =>
        have HE : r = decide ((k : Int) ≤ 30) := by
          rw [HR.out]
          unfold M.inB; rw [h0, Bool.true_and]
          by_cases q : k ≤ 30
          · rw [decide_eq_true q, decide_eq_true (by omega)]
          · rw [decide_eq_false q, decide_eq_false (by omega)]
        subst HE
        go_wp2_with (go_at_call 56; refine (sIn _ _ _ _).mono ?_; rintro e w' ⟨rfl, rfl⟩)
        go_ret
        exact ⟨rfl, HB.out⟩
set_option maxRecDepth 100000 in
set_option maxHeartbeats 2000000 in
theorem allows (x : Int) (a : Option Addr) (n cap : Nat) (p0 p1 p2 p3 : Int) (w : World) :
    Calls Try.prog 64 #[.agg #[.int .i64 x, .slice a n cap], .agg #[.int .i64 p0, .int .i64 p1, .int .i64 p2, .int .i64 p3]] w fun e w' => e = .returned (.bool (M.plW (wrap64 (x - 1)) (p0, p1, p2, p3))) ∧ Below w.heap.size w w' := by
  obtain ⟨m, hm⟩ : ∃ m, m = wrap64 (x - 1) := ⟨_, rfl⟩
  have HH : Hid (∀ y w, Calls Try.prog 75 #[.agg #[.int .i64 x, .slice a n cap], .int .i64 y] w fun e w' => e = .returned (.bool (M.inB y 0 m)) ∧ Below w.heap.size w w') := fun y w => by rw [hm]; exact hasEvent x a n cap y w
  rw [← hm]
  show Calls _ _ _ _ fun e w' => e = .returned (.bool (M.inB p0 0 m && (M.inB p1 0 m && (M.inB p2 0 1000 && M.inB p3 0 5)))) ∧ Below w.heap.size w w'
  clear hm
  have HW : Hid (Below w.heap.size w ((w.alloc (.cells #[.int .i64 x, .slice a n cap] 26)).alloc (.cells #[.int .i64 p0, .int .i64 p1, .int .i64 p2, .int .i64 p3] 39))) := b_alloc2 w _ _
  obtain ⟨W, hW⟩ : ∃ W, W = (w.alloc (.cells #[.int .i64 x, .slice a n cap] 26)).alloc (.cells #[.int .i64 p0, .int .i64 p1, .int .i64 p2, .int .i64 p3] 39) := ⟨_, rfl⟩
  have c0 : W.cell? ⟨w.heap.size, 0, none⟩ = some (.int .i64 x) := by rw [hW]; simp [go_sem]
  have c1 : W.cell? ⟨w.heap.size, 1, none⟩ = some (.slice a n cap) := by rw [hW]; simp [go_sem]
  have d0 : W.cell? ⟨w.heap.size + 1, 0, none⟩ = some (.int .i64 p0) := by rw [hW]; simp [go_sem]
  have d1 : W.cell? ⟨w.heap.size + 1, 1, none⟩ = some (.int .i64 p1) := by rw [hW]; simp [go_sem]
  have d2 : W.cell? ⟨w.heap.size + 1, 2, none⟩ = some (.int .i64 p2) := by rw [hW]; simp [go_sem]
  have d3 : W.cell? ⟨w.heap.size + 1, 3, none⟩ = some (.int .i64 p3) := by rw [hW]; simp [go_sem]
  rw [← hW] at HW
  have HWe := Lib.hid hW.symm
  clear hW
  have HK : Hid (∀ W', Below W.heap.size W W' → W'.cell? ⟨w.heap.size, 0, none⟩ = some (.int .i64 x) ∧ W'.cell? ⟨w.heap.size, 1, none⟩ = some (.slice a n cap) ∧ W'.cell? ⟨w.heap.size + 1, 1, none⟩ = some (.int .i64 p1) ∧ W'.cell? ⟨w.heap.size + 1, 2, none⟩ = some (.int .i64 p2) ∧ W'.cell? ⟨w.heap.size + 1, 3, none⟩ = some (.int .i64 p3)) := fun W' hb =>
    ⟨(hb.cell (cell_lt c0)).trans c0, (hb.cell (cell_lt c1)).trans c1, (hb.cell (cell_lt d1)).trans d1, (hb.cell (cell_lt d2)).trans d2, (hb.cell (cell_lt d3)).trans d3⟩
  go_enter Try.func64, Try.ntmps64
  go_wp2_with fail
  rw [HWe.out]
  refine (HH.out p0 W).mono ?_
  rintro e w1 ⟨rfl, hb1⟩
  have HB1 := Lib.hid hb1
  obtain ⟨k0, k1, k2, k3, k4⟩ := HK.out w1 hb1
  clear hb1 c0 c1 d0 d1 d2 d3
  cases h0 : M.inB p0 0 m with
  | false =>
    go_wp2
    go_ret
    exact ⟨by rw [h0]; rfl, HW.out.trans (HB1.out.mono HW.out.size)⟩
  | true =>
    go_wp2_with fail
    refine (HH.out p1 w1).mono ?_
    rintro e w2 ⟨rfl, hb2⟩
    have HB2 := Lib.hid (HB1.out.trans (hb2.mono HB1.out.size))
    clear k0 k1 k2 k3 k4
    obtain ⟨k0, k1, k2, k3, k4⟩ := HK.out w2 HB2.out
    clear hb2
    cases h1 : M.inB p1 0 m with
    | false =>
      go_wp2
      go_ret
      exact ⟨by rw [h0, h1]; rfl, HW.out.trans (HB2.out.mono HW.out.size)⟩
    | true =>
      go_wp2_with fail
      refine (isUpTo p2 1000 w2).mono ?_
      rintro e w' ⟨rfl, rfl⟩
      cases h2 : M.inB p2 0 1000 with
      | false =>
        go_wp2
        go_ret
        exact ⟨by rw [h0, h1, h2]; rfl, HW.out.trans (HB2.out.mono HW.out.size)⟩
      | true =>
        go_wp2_with fail
        refine (isUpTo p3 5 w2).mono ?_
        rintro e w' ⟨rfl, rfl⟩
        go_wp2
        go_ret
        exact ⟨by rw [h0, h1, h2]; rfl, HW.out.trans (HB2.out.mono HW.out.size)⟩
set_option maxRecDepth 100000 in
set_option maxHeartbeats 1000000 in
theorem notAllowed (G : Nat) (x : Int) (a : Option Addr) (n cap : Nat) (p0 p1 p2 p3 : Int) (w : World) (hG : GBox w G x a n cap) :
    Calls Try.prog 63 #[.agg #[.int .i64 p0, .int .i64 p1, .int .i64 p2, .int .i64 p3], .pointer (some ⟨G, 0, none⟩)] w fun e w' => e = .returned (.bool (!M.plW (wrap64 (x - 1)) (p0, p1, p2, p3))) ∧ Below w.heap.size w w' := by
  obtain ⟨v, hv⟩ : ∃ v, v = M.plW (wrap64 (x - 1)) (p0, p1, p2, p3) := ⟨_, rfl⟩
  have HC : Hid (∀ w, Calls Try.prog 64 #[.agg #[.int .i64 x, .slice a n cap], .agg #[.int .i64 p0, .int .i64 p1, .int .i64 p2, .int .i64 p3]] w fun e w' => e = .returned (.bool v) ∧ Below w.heap.size w w') := fun w => by rw [hv]; exact allows x a n cap p0 p1 p2 p3 w
  rw [← hv]
  obtain ⟨g0, g1⟩ := hG
  have hlt : G < w.heap.size := cell_lt g0
  have hne : G ≠ w.heap.size := by omega
  clear hv
  go_enter Try.func63, Try.ntmps63
  go_wp2_with fail
  refine (HC.out _).mono ?_
  rintro e w2 ⟨rfl, hb2⟩
  have HB := Lib.hid ((b_alloc w (.cells #[.int .i64 p0, .int .i64 p1, .int .i64 p2, .int .i64 p3] 39)).trans (hb2.mono (by simp)))
  clear hb2
  go_wp2
  go_ret
  exact ⟨rfl, HB.out⟩
set_option maxRecDepth 100000 in
set_option maxHeartbeats 1000000 in
theorem indexBad (G : Nat) (x : Int) (ga : Option Addr) (gn gc : Nat) (a : Option Addr) (n cap : Nat) (l : List M.Pc) (w : World) (h : Pls w a n l) (hG : GBox w G x ga gn gc) :
    Calls Try.prog 77 #[.slice a n cap, .func (.func 63) #[] #[.pointer (some ⟨G, 0, none⟩)]] w fun e w' => Below w.heap.size w w' ∧
      ((e = .returned (.int .i64 (-1)) ∧ l.all (M.plW (wrap64 (x - 1))) = true) ∨ ∃ j : Nat, e = .returned (.int .i64 j) ∧ l.all (M.plW (wrap64 (x - 1))) = false) := by
  have HI := Lib.hid h
  have HL : Hid (l.length = n) := h.1
  have HG := Lib.hid hG
  have hm := h.2.1
  unfold maxLen at hm
  clear h hG
  go_enter Try.func77, Try.ntmps77
  go_wp2
  go_loopw [5, 8] (fun _ iv wr => ∃ k : Nat, k ≤ n ∧ iv = .int .i64 k ∧ Hid (∀ j, j < k → M.plW (wrap64 (x - 1)) (l.getD j M.pz) = true) ∧ Hid (Below w.heap.size w wr)) (fun _ iv _ => n - (intOf iv).toNat)
  case atStart => exact ⟨0, Nat.zero_le _, rfl, fun j hj => absurd hj (Nat.not_lt_zero j), Below.refl _ _⟩
  case round =>
    obtain ⟨k, hk, rfl, HA, HW⟩ := hrel
    by_cases hkl : k < n
    · have hki : (k : Int) < (n : Int) := by omega
      obtain ⟨b, off, p0, p1, p2, p3, rfl, -, hp, c0, c1, c2, c3⟩ := (HI.out.below HW.out).at k hkl
      have hcall := notAllowed G x ga gn gc p0 p1 p2 p3 wr (HG.out.below HW.out)
      obtain ⟨t, ht⟩ : ∃ t, t = M.plW (wrap64 (x - 1)) (p0, p1, p2, p3) := ⟨_, rfl⟩
      have HT : Hid (M.plW (wrap64 (x - 1)) (l.getD k M.pz) = t) := by show _ = _; rw [hp, ht]
      rw [← ht] at hcall
      have HS := Lib.hid HW.out.size
      clear ht hp
      cases t with
      | true =>
        have HCa := Lib.hid hcall
        clear hcall
        go_wp2_with (go_at_call 63; refine (HCa.out).mono ?_; rintro e w' ⟨rfl, hb'⟩)
        go_roundw
        case rel => exact ⟨k + 1, by omega, by go_num, fun i hi => by rcases Nat.lt_or_ge i k with q | q; exact HA.out i q; rw [show i = k by omega]; exact HT.out, HW.out.trans (hb'.mono HS.out)⟩
        case measure => simp [intOf]; omega
      | false =>
        have HCa := Lib.hid hcall
        clear hcall
        go_wp2_with (go_at_call 63; refine (HCa.out).mono ?_; rintro e w' ⟨rfl, hb'⟩)
        go_ret
        exact ⟨HW.out.trans (hb'.mono HS.out), .inr ⟨k, rfl, M.all_no (by rw [HL.out]; exact hkl) HT.out⟩⟩
    · obtain rfl : k = n := by omega
      have HE : Hid (l.all (M.plW (wrap64 (x - 1))) = true) := M.all_of (fun i hi => HA.out i (by rw [← HL.out]; exact hi))
      go_wp2
      go_ret
      exact ⟨HW.out, .inl ⟨rfl, HE.out⟩⟩
set_option maxRecDepth 100000 in
set_option maxHeartbeats 1000000 in
theorem containsBad (G : Nat) (x : Int) (ga : Option Addr) (gn gc : Nat) (a : Option Addr) (n cap : Nat) (l : List M.Pc) (w : World) (v : Bool) (h : Pls w a n l) (hG : GBox w G x ga gn gc) (hv : l.all (M.plW (wrap64 (x - 1))) = v) :
    Calls Try.prog 62 #[.slice a n cap, .func (.func 63) #[] #[.pointer (some ⟨G, 0, none⟩)]] w fun e w' => e = .returned (.bool (!v)) ∧ Below w.heap.size w w' := by
  have HC := Lib.hid (indexBad G x ga gn gc a n cap l w h hG)
  have HV := Lib.hid hv
  clear h hG hv
  go_enter Try.func62, Try.ntmps62
  go_wp2_with fail
  refine (HC.out).mono ?_
  rintro e w1 ⟨hb, ⟨rfl, hall⟩ | ⟨j, rfl, hall⟩⟩
  · rw [HV.out] at hall
    subst hall
    have HB := Lib.hid hb
    clear hb
    go_wp2
    go_ret
    exact ⟨rfl, HB.out⟩
  · rw [HV.out] at hall
    subst hall
    have hj0 : (0 : Int) ≤ (j : Int) := by omega
    have HB := Lib.hid hb
    clear hb
    go_wp2
    go_ret
    exact ⟨rfl, HB.out⟩
set_option maxRecDepth 100000 in
set_option maxHeartbeats 1000000 in
theorem isEventGraph (x : Int) (a : Option Addr) (n cap : Nat) (l : List M.Pc) (w : World) (h : Pls w a n l) :
    Calls Try.prog 28 #[.agg #[.int .i64 x, .slice a n cap]] w fun e w' => e = .returned (.bool (M.isGr x l)) ∧ Below w.heap.size w w' := by
  have hm := h.2.1
  unfold maxLen at hm
  obtain ⟨r, hr⟩ : ∃ r, r = M.isGr x l := ⟨_, rfl⟩
  have HR := Lib.hid hr
  rw [← hr]
  have HL : Hid (l.length = n) := h.1
  have HI := Lib.hid h
  clear hr h
  by_cases h1 : x < 1
  · have e : r = false := by rw [HR.out]; unfold M.isGr M.inB; rw [decide_eq_false (show ¬ 1 ≤ x by omega)]; rfl
    subst e
    go_enter Try.func28, Try.ntmps28
    go_wp2
    go_ret
    exact ⟨rfl, b_alloc _ _⟩
  · by_cases h2 : 10 < x
    · have e : r = false := by rw [HR.out]; unfold M.isGr M.inB; rw [decide_eq_false (show ¬ x ≤ 10 by omega), Bool.and_false]; rfl
      subst e
      go_enter Try.func28, Try.ntmps28
      go_wp2
      go_ret
      exact ⟨rfl, b_alloc _ _⟩
    · have hin : M.inB x 1 10 = true := by unfold M.inB; rw [decide_eq_true (show 1 ≤ x by omega), decide_eq_true (show x ≤ 10 by omega)]; rfl
      by_cases h3 : 30 < n
      · have e : r = false := by rw [HR.out]; unfold M.isGr; rw [decide_eq_false (show ¬ l.length ≤ 30 by rw [HL.out]; omega), Bool.false_and, Bool.and_false]
        subst e
        clear hin
        go_enter Try.func28, Try.ntmps28
        go_wp2
        go_ret
        exact ⟨rfl, b_alloc _ _⟩
      · have e : l.all (M.plW (wrap64 (x - 1))) = r := by
          rw [HR.out]; unfold M.isGr; rw [hin, decide_eq_true (show l.length ≤ 30 by rw [HL.out]; omega), Bool.true_and, Bool.true_and, ev_wrap hin]
        have HT := Lib.hid (containsBad w.heap.size x a n cap a n cap l (w.alloc (.cells #[.int .i64 x, .slice a n cap] 26)) r (HI.out.below (b_alloc w _)) (gBox_new _ _ _ _ _ _) e)
        clear hin e
        go_enter Try.func28, Try.ntmps28
        go_wp2_with fail
        refine (HT.out).mono ?_
        rintro e w2 ⟨rfl, hb2⟩
        have HB := Lib.hid ((b_alloc w (.cells #[.int .i64 x, .slice a n cap] 26)).trans (hb2.mono (by simp)))
        clear hb2
        go_wp2
        go_ret
        exact ⟨by simp, HB.out⟩
end V
end Go.Proofs.Ytkjcnlihmhcakaa

namespace Go.Proofs.Ytkjcnlihmhcakaa.V
open Go.RowKit Go.ChangeShapes Go.WideShapes Go.Deep Go.Joins
theorem one_of {H : Type} {enc : TypeId × Value → H} {P : Program} {w : World} {base : Nat} {spare : Nat → Bool} {held : Bool} {q : TypeId} {fuel j : Nat} {cs : List Value} {y : DataW H × List MemPlace} (hq : P.underlying q = some (.int .i64)) (hj : j < cs.length)
    (h : DataW.trod enc P w base spare held fuel q ((cs.drop j).take 1) = some y) : ∃ z : Int, cs[j]? = some (.int .i64 z) := by
  obtain ⟨z, hz, -⟩ := DataW.trod_int hq h
  rw [List.drop_eq_getElem_cons hj, List.take_succ_cons] at hz
  injection hz with e _
  exact ⟨z, by rw [List.getElem?_eq_getElem hj, e]⟩
theorem pls_open {H : Type} {enc : TypeId × Value → H} {P : Program} {w : World} {base : Nat} {held : Bool} {t e q : TypeId} {f0 f1 f2 f3 : Field} {fuel : Nat} {cs : List Value} {x : DataW H × List MemPlace} (ht : P.underlying t = some (.slice e)) (he : P.underlying e = some (.struct #[f0, f1, f2, f3]))
    (h0 : f0.type = q ∧ f0.offset = 0) (h1 : f1.type = q ∧ f1.offset = 1) (h2 : f2.type = q ∧ f2.offset = 2) (h3 : f3.type = q ∧ f3.offset = 3) (hq : P.underlying q = some (.int .i64)) (ce : P.cellsOf e = 4) (cq : P.cellsOf q = 1)
    (h : DataW.trod enc P w base (fun _ => true) held fuel t cs = some x) :
    ∃ a len cap l, cs = [.slice a len cap] ∧ Pls w a len l := by
  rcases open_slice ht h with ⟨rfl, -⟩ | ⟨a, len, cap, m, n, D, Pl, rfl, hb, hl, hm, hmm, -, hi⟩
  · exact ⟨none, 0, 0, [], rfl, rfl, Nat.zero_le _, .inl rfl⟩
  · have key : ∀ i, ∃ p : M.Pc, i < len → w.cell? (a.add (i * 4)) = some (.int .i64 p.1) ∧ w.cell? ((a.add (i * 4)).add 1) = some (.int .i64 p.2.1) ∧ w.cell? ((a.add (i * 4)).add 2) = some (.int .i64 p.2.2.1) ∧ w.cell? ((a.add (i * 4)).add 3) = some (.int .i64 p.2.2.2) := fun i => by
      by_cases hil : i < len
      · have him : i < m := by rw [hmm]; simp; omega
        obtain ⟨cs', hc, ht'⟩ := hi i him
        rw [ce] at hc
        obtain ⟨-, hlen, hat⟩ := World.cells?_some hc
        obtain ⟨y0, y1, y2, y3, n', -, -, t0, t1, t2, t3⟩ := trod_struct4 he ht'
        rw [h0.1, h0.2, cq] at t0
        rw [h1.1, h1.2, cq] at t1
        rw [h2.1, h2.2, cq] at t2
        rw [h3.1, h3.2, cq] at t3
        obtain ⟨z0, e0⟩ := one_of hq (by omega) t0
        obtain ⟨z1, e1⟩ := one_of hq (by omega) t1
        obtain ⟨z2, e2⟩ := one_of hq (by omega) t2
        obtain ⟨z3, e3⟩ := one_of hq (by omega) t3
        have a0 : (a.add (i * 4)).add 0 = a.add (i * 4) := by unfold Addr.add; split <;> simp_all
        exact ⟨(z0, z1, z2, z3), fun _ => ⟨by rw [← a0, hat 0 (by omega), e0], by rw [hat 1 (by omega), e1], by rw [hat 2 (by omega), e2], by rw [hat 3 (by omega), e3]⟩⟩
      · exact ⟨M.pz, fun q => absurd q hil⟩
    obtain ⟨f, hf⟩ := Classical.axiomOfChoice key
    refine ⟨some a, len, cap, (List.range len).map f, rfl, by simp, by omega, ?_⟩
    by_cases hz : len = 0
    · exact .inl hz
    · have hsp : a.spot = none := by
        have := (hf 0 (by omega)).1
        simpa [Addr.add] using World.cell?_spot this
      obtain ⟨b, off, spot⟩ := a
      simp only at hsp
      subst hsp
      have ad : ∀ o j, (⟨b, o, none⟩ : Addr).add j = ⟨b, o + j, none⟩ := fun o j => by unfold Addr.add; split <;> simp_all
      refine .inr ⟨b, off, rfl, ?_, fun i hi => ?_⟩
      · have := cell_lt (hf 0 (by omega)).1
        simpa [Addr.add] using this
      · obtain ⟨k0, k1, k2, k3⟩ := hf i hi
        have eL : ((List.range len).map f).getD i M.pz = f i := by simp [hi]
        rw [eL]
        rw [ad] at k0
        rw [ad, ad] at k1 k2 k3
        exact ⟨k0, k1, k2, k3⟩
end Go.Proofs.Ytkjcnlihmhcakaa.V
