/- Texts laid together: Gre, Grf, Grg. -/
import Derived.Test.YtobdgboejbbfiaaQa11
import Derived.Test.YtobdgboejbbfiaaQa3
import Derived.Test.YtobdgboejbbfiaaQa8
import Derived.Deep.RegionLaw
import Derived.Lib.SliceRun
set_option linter.unusedSimpArgs false
set_option linter.unusedVariables false
set_option linter.unusedSectionVars false
namespace Go.Proofs.Ytobdgboejbbfiaa
namespace V
set_option maxRecDepth 100000
open Go.RowKit
theorem ev_wrap {x : Int} (h : M.inB x 1 10 = true) : wrap64 (x - 1) = x - 1 := by
  unfold M.inB at h
  simp at h
  exact IntWalk.wrap64_in _ ⟨by omega, by omega⟩
theorem isGr_sp {x : Int} {l : List M.Pc} (h : ∀ i, i < l.length → M.plW (wrap64 (x - 1)) (l.getD i M.pz) = true) : M.isGr x l = (M.inB x 1 10 && decide (l.length ≤ 30)) := by
  unfold M.isGr
  cases he : M.inB x 1 10 with
  | false => rfl
  | true =>
    rw [← ev_wrap he, M.all_of h]
    simp
theorem isGr_no {x : Int} {l : List M.Pc} {i : Nat} (hi : i < l.length) (h : M.plW (wrap64 (x - 1)) (l.getD i M.pz) = false) : M.isGr x l = false := by
  unfold M.isGr
  cases he : M.inB x 1 10 with
  | false => rfl
  | true =>
    rw [← ev_wrap he, M.all_no hi h]
    simp
/-- The box of a graph. -/
def GBox (w : World) (g : Nat) (x : Int) (a : Option Addr) (n cap : Nat) : Prop := w.cell? ⟨g, 0, none⟩ = some (.int .i64 x) ∧ w.cell? ⟨g, 1, none⟩ = some (.slice a n cap)
theorem GBox.below {w w' : World} {g : Nat} {x : Int} {a : Option Addr} {n cap : Nat} (h : GBox w g x a n cap) (hb : Below w.heap.size w w') : GBox w' g x a n cap :=
  ⟨(hb.cell (cell_lt h.1)).trans h.1, (hb.cell (cell_lt h.2)).trans h.2⟩
theorem gBox_new (w : World) (x : Int) (a : Option Addr) (n cap : Nat) (t : TypeId) : GBox (w.alloc (.cells #[.int .i64 x, .slice a n cap] t)) w.heap.size x a n cap := ⟨by simp [go_sem], by simp [go_sem]⟩
set_option maxRecDepth 100000 in
set_option maxHeartbeats 2000000 in
theorem sIsEventGraph (x : Int) (a : Option Addr) (n cap : Nat) (l : List M.Pc) (w : World) (h : Pls w a n l) :
    Calls Try.prog 68 #[.agg #[.int .i64 x, .slice a n cap]] w fun e w' => e = .returned (.bool (M.isGr x l)) ∧ Below w.heap.size w w' := by
  have HI := Lib.hid h
  have HL : Hid (l.length = n) := h.1
  have hm := h.2.1
  unfold maxLen at hm
  have HP : Hid (∀ p0 p1 p2 p3 w, Calls Try.prog 105 #[.agg #[.int .i64 p0, .int .i64 p1, .int .i64 p2, .int .i64 p3], .int .i64 x] w fun e w' => e = .returned (.bool (M.plW (wrap64 (x - 1)) (p0, p1, p2, p3))) ∧ Below w.heap.size w w') := fun p0 p1 p2 p3 w => sPlace p0 p1 p2 p3 x w
  have HNo : Hid (∀ i, i < n → M.plW (wrap64 (x - 1)) (l.getD i M.pz) = false → M.isGr x l = false) := fun i hi q => isGr_no (by rw [HL.out]; exact hi) q
  have HSp : Hid ((∀ i, i < n → M.plW (wrap64 (x - 1)) (l.getD i M.pz) = true) → M.isGr x l = (M.inB x 1 10 && decide (n ≤ 30))) := fun q => by rw [isGr_sp (fun i hi => q i (by rw [← HL.out]; exact hi)), HL.out]
  have HG0 : Hid (GBox (w.alloc (.cells #[.int .i64 x, .slice a n cap] 26)) w.heap.size x a n cap) := gBox_new _ _ _ _ _ _
  have HB0 : Hid (Below w.heap.size w (w.alloc (.cells #[.int .i64 x, .slice a n cap] 26))) := b_alloc w _
  obtain ⟨r, hr⟩ : ∃ r, r = M.isGr x l := ⟨_, rfl⟩
  rw [← hr] at HNo HSp ⊢
  clear h hr
  go_enter Try.func68, Try.ntmps68
  go_wp2
  go_loopw [3] (fun kv wr => ∃ k : Nat, k ≤ n ∧ kv = .int .i64 k ∧ Hid (∀ i, i < k → M.plW (wrap64 (x - 1)) (l.getD i M.pz) = true) ∧ Hid (GBox wr w.heap.size x a n cap) ∧ Hid (Below w.heap.size w wr)) (fun kv _ => n - (intOf kv).toNat)
  case atStart => exact ⟨0, Nat.zero_le _, rfl, fun i hi => absurd hi (Nat.not_lt_zero i), HG0, HB0⟩
  case round =>
    obtain ⟨k, hk, rfl, HA, HG, HB⟩ := hrel
    obtain ⟨wo, rfl⟩ : ∃ x, x = wr := ⟨_, rfl⟩
    clear HG0 HB0
    obtain ⟨g0, g1⟩ := HG.out
    by_cases hkl : k < n
    · have hki : (k : Int) < (n : Int) := by omega
      obtain ⟨b, off, p0, p1, p2, p3, rfl, -, hp, c0, c1, c2, c3⟩ := (HI.out.below HB.out).at k hkl
      obtain ⟨v, hv⟩ : ∃ v, v = M.plW (wrap64 (x - 1)) (p0, p1, p2, p3) := ⟨_, rfl⟩
      have HC : Hid (∀ w, Calls Try.prog 105 #[.agg #[.int .i64 p0, .int .i64 p1, .int .i64 p2, .int .i64 p3], .int .i64 x] w fun e w' => e = .returned (.bool v) ∧ Below w.heap.size w w') := fun w => by rw [hv]; exact HP.out p0 p1 p2 p3 w
      have HV : Hid (M.plW (wrap64 (x - 1)) (l.getD k M.pz) = v) := by show _ = _; rw [hp, hv]
      have HS := Lib.hid HB.out.size
      clear hp hv
      cases v with
      | true =>
        go_wp2
        go_region_with (first | (go_at_call 105; refine (HC.out _).mono ?_; rintro e w2 ⟨rfl, hb2⟩))
        all_goals
          have HB2 : Hid (Below wo.heap.size wo w2) := (b_draws wo 1).trans (hb2.mono (by simp))
          have HG2 := Lib.hid (HG.out.below HB2.out)
          go_wp2
          go_roundw
          case rel => exact ⟨k + 1, by omega, by go_num, fun i hi => by rcases Nat.lt_or_ge i k with q | q; exact HA.out i q; rw [show i = k by omega]; exact HV.out, HG2, HB.out.trans (HB2.out.mono HS.out)⟩
          case measure => simp [intOf]; omega
      | false =>
        have HR := HNo.out k hkl HV.out
        subst HR
        go_wp2
        go_region_with (first | (go_at_call 105; refine (HC.out _).mono ?_; rintro e w2 ⟨rfl, hb2⟩))
        all_goals
          have HB2 : Hid (Below w.heap.size w w2) := (HB.out.trans ((b_draws wo 1).mono HS.out)).trans (hb2.mono (by simpa using HS.out))
          go_wp2
          go_ret
          exact ⟨rfl, HB2.out⟩
    · obtain rfl : k = n := by omega
      have HR := Lib.hid (HSp.out HA.out)
      cases h0 : (decide (1 ≤ x) && decide (x ≤ 10)) with
      | false =>
        have HE : r = false := by rw [HR.out]; unfold M.inB; rw [h0]; rfl
        subst HE
        go_wp2_with (go_at_call 85; refine (sIn _ _ _ _).mono ?_; rintro e w' ⟨rfl, rfl⟩)
        go_ret
        exact ⟨rfl, HB.out⟩
      | true =>
        have HE : r = decide ((k : Int) ≤ 30) := by
          rw [HR.out]
          unfold M.inB; rw [h0, Bool.true_and]
          by_cases q : k ≤ 30
          · rw [decide_eq_true q, decide_eq_true (by omega)]
          · rw [decide_eq_false q, decide_eq_false (by omega)]
        subst HE
        go_wp2_with (go_at_call 85; refine (sIn _ _ _ _).mono ?_; rintro e w' ⟨rfl, rfl⟩)
        go_ret
        exact ⟨rfl, HB.out⟩
set_option maxRecDepth 100000 in
set_option maxHeartbeats 2000000 in
theorem allows (x : Int) (a : Option Addr) (n cap : Nat) (p0 p1 p2 p3 : Int) (w : World) :
    Calls Try.prog 106 #[.agg #[.int .i64 x, .slice a n cap], .agg #[.int .i64 p0, .int .i64 p1, .int .i64 p2, .int .i64 p3]] w fun e w' => e = .returned (.bool (M.plW (wrap64 (x - 1)) (p0, p1, p2, p3))) ∧ Below w.heap.size w w' := by
  obtain ⟨m, hm⟩ : ∃ m, m = wrap64 (x - 1) := ⟨_, rfl⟩
  have HH : Hid (∀ y w, Calls Try.prog 87 #[.agg #[.int .i64 x, .slice a n cap], .int .i64 y] w fun e w' => e = .returned (.bool (M.inB y 0 m)) ∧ Below w.heap.size w w') := fun y w => by rw [hm]; exact hasEvent x a n cap y w
  rw [← hm]
  show Calls _ _ _ _ fun e w' => e = .returned (.bool (M.inB p0 0 m && (M.inB p1 0 m && (M.inB p2 0 1000 && M.inB p3 0 5)))) ∧ Below w.heap.size w w'
  clear hm
  have HW : Hid (Below w.heap.size w ((w.alloc (.cells #[.int .i64 x, .slice a n cap] 26)).alloc (.cells #[.int .i64 p0, .int .i64 p1, .int .i64 p2, .int .i64 p3] 35))) := b_alloc2 w _ _
  obtain ⟨W, hW⟩ : ∃ W, W = (w.alloc (.cells #[.int .i64 x, .slice a n cap] 26)).alloc (.cells #[.int .i64 p0, .int .i64 p1, .int .i64 p2, .int .i64 p3] 35) := ⟨_, rfl⟩
  have c0 : W.cell? ⟨w.heap.size, 0, none⟩ = some (.int .i64 x) := by rw [hW]; simp [go_sem]
  have c1 : W.cell? ⟨w.heap.size, 1, none⟩ = some (.slice a n cap) := by rw [hW]; simp [go_sem]
  have d0 : W.cell? ⟨w.heap.size + 1, 0, none⟩ = some (.int .i64 p0) := by rw [hW]; simp [go_sem]
  have d1 : W.cell? ⟨w.heap.size + 1, 1, none⟩ = some (.int .i64 p1) := by rw [hW]; simp [go_sem]
  have d2 : W.cell? ⟨w.heap.size + 1, 2, none⟩ = some (.int .i64 p2) := by rw [hW]; simp [go_sem]
  have d3 : W.cell? ⟨w.heap.size + 1, 3, none⟩ = some (.int .i64 p3) := by rw [hW]; simp [go_sem]
  rw [← hW] at HW
  have HWe := Lib.hid hW.symm
  clear hW
  have HK : Hid (∀ W', Below W.heap.size W W' → W'.cell? ⟨w.heap.size, 0, none⟩ = some (.int .i64 x) ∧ W'.cell? ⟨w.heap.size, 1, none⟩ = some (.slice a n cap) ∧ W'.cell? ⟨w.heap.size + 1, 1, none⟩ = some (.int .i64 p1) ∧ W'.cell? ⟨w.heap.size + 1, 2, none⟩ = some (.int .i64 p2) ∧ W'.cell? ⟨w.heap.size + 1, 3, none⟩ = some (.int .i64 p3)) := fun W' hb =>
    ⟨(hb.cell (cell_lt c0)).trans c0, (hb.cell (cell_lt c1)).trans c1, (hb.cell (cell_lt d1)).trans d1, (hb.cell (cell_lt d2)).trans d2, (hb.cell (cell_lt d3)).trans d3⟩
  go_enter Try.func106, Try.ntmps106
  go_wp2_with fail
  rw [HWe.out]
  refine (HH.out p0 W).mono ?_
  rintro e w1 ⟨rfl, hb1⟩
  have HB1 := Lib.hid hb1
  obtain ⟨k0, k1, k2, k3, k4⟩ := HK.out w1 hb1
  clear hb1 c0 c1 d0 d1 d2 d3
  cases h0 : M.inB p0 0 m with
  | false =>
    go_wp2
    go_ret
    exact ⟨by rw [h0]; rfl, HW.out.trans (HB1.out.mono HW.out.size)⟩
  | true =>
    go_wp2_with fail
    refine (HH.out p1 w1).mono ?_
    rintro e w2 ⟨rfl, hb2⟩
    have HB2 := Lib.hid (HB1.out.trans (hb2.mono HB1.out.size))
    clear k0 k1 k2 k3 k4
    obtain ⟨k0, k1, k2, k3, k4⟩ := HK.out w2 HB2.out
    clear hb2
    cases h1 : M.inB p1 0 m with
    | false =>
      go_wp2
      go_ret
      exact ⟨by rw [h0, h1]; rfl, HW.out.trans (HB2.out.mono HW.out.size)⟩
    | true =>
      go_wp2_with fail
      refine (isUpTo p2 1000 w2).mono ?_
      rintro e w' ⟨rfl, rfl⟩
      cases h2 : M.inB p2 0 1000 with
      | false =>
        go_wp2
        go_ret
        exact ⟨by rw [h0, h1, h2]; rfl, HW.out.trans (HB2.out.mono HW.out.size)⟩
      | true =>
        go_wp2_with fail
        refine (isUpTo p3 5 w2).mono ?_
        rintro e w' ⟨rfl, rfl⟩
        go_wp2
        go_ret
        exact ⟨by rw [h0, h1, h2]; rfl, HW.out.trans (HB2.out.mono HW.out.size)⟩
set_option maxRecDepth 100000 in
set_option maxHeartbeats 1000000 in
theorem notAllowed (G : Nat) (x : Int) (a : Option Addr) (n cap : Nat) (p0 p1 p2 p3 : Int) (w : World) (hG : GBox w G x a n cap) :
    Calls Try.prog 115 #[.agg #[.int .i64 p0, .int .i64 p1, .int .i64 p2, .int .i64 p3], .pointer (some ⟨G, 0, none⟩)] w fun e w' => e = .returned (.bool (!M.plW (wrap64 (x - 1)) (p0, p1, p2, p3))) ∧ Below w.heap.size w w' := by
  obtain ⟨v, hv⟩ : ∃ v, v = M.plW (wrap64 (x - 1)) (p0, p1, p2, p3) := ⟨_, rfl⟩
  have HC : Hid (∀ w, Calls Try.prog 106 #[.agg #[.int .i64 x, .slice a n cap], .agg #[.int .i64 p0, .int .i64 p1, .int .i64 p2, .int .i64 p3]] w fun e w' => e = .returned (.bool v) ∧ Below w.heap.size w w') := fun w => by rw [hv]; exact allows x a n cap p0 p1 p2 p3 w
  rw [← hv]
  obtain ⟨g0, g1⟩ := hG
  have hlt : G < w.heap.size := cell_lt g0
  have hne : G ≠ w.heap.size := by omega
  clear hv
  go_enter Try.func115, Try.ntmps115
  go_wp2_with fail
  refine (HC.out _).mono ?_
  rintro e w2 ⟨rfl, hb2⟩
  have HB := Lib.hid ((b_alloc w (.cells #[.int .i64 p0, .int .i64 p1, .int .i64 p2, .int .i64 p3] 35)).trans (hb2.mono (by simp)))
  clear hb2
  go_wp2
  go_ret
  exact ⟨rfl, HB.out⟩
set_option maxRecDepth 100000 in
set_option maxHeartbeats 1000000 in
theorem indexBad (G : Nat) (x : Int) (ga : Option Addr) (gn gc : Nat) (a : Option Addr) (n cap : Nat) (l : List M.Pc) (w : World) (h : Pls w a n l) (hG : GBox w G x ga gn gc) :
    Calls Try.prog 123 #[.slice a n cap, .func (.func 115) #[] #[.pointer (some ⟨G, 0, none⟩)]] w fun e w' => Below w.heap.size w w' ∧
      ((e = .returned (.int .i64 (-1)) ∧ l.all (M.plW (wrap64 (x - 1))) = true) ∨ ∃ j : Nat, e = .returned (.int .i64 j) ∧ l.all (M.plW (wrap64 (x - 1))) = false) := by
  have HI := Lib.hid h
  have HL : Hid (l.length = n) := h.1
  have HG := Lib.hid hG
  have hm := h.2.1
  unfold maxLen at hm
  clear h hG
  go_enter Try.func123, Try.ntmps123
  go_wp2
  go_loopw [5, 8] (fun _ iv wr => ∃ k : Nat, k ≤ n ∧ iv = .int .i64 k ∧ Hid (∀ j, j < k → M.plW (wrap64 (x - 1)) (l.getD j M.pz) = true) ∧ Hid (Below w.heap.size w wr)) (fun _ iv _ => n - (intOf iv).toNat)
  case atStart => exact ⟨0, Nat.zero_le _, rfl, fun j hj => absurd hj (Nat.not_lt_zero j), Below.refl _ _⟩
  case round =>
    obtain ⟨k, hk, rfl, HA, HW⟩ := hrel
    by_cases hkl : k < n
    · have hki : (k : Int) < (n : Int) := by omega
      obtain ⟨b, off, p0, p1, p2, p3, rfl, -, hp, c0, c1, c2, c3⟩ := (HI.out.below HW.out).at k hkl
      have hcall := notAllowed G x ga gn gc p0 p1 p2 p3 wr (HG.out.below HW.out)
      obtain ⟨t, ht⟩ : ∃ t, t = M.plW (wrap64 (x - 1)) (p0, p1, p2, p3) := ⟨_, rfl⟩
      have HT : Hid (M.plW (wrap64 (x - 1)) (l.getD k M.pz) = t) := by show _ = _; rw [hp, ht]
      rw [← ht] at hcall
      have HS := Lib.hid HW.out.size
      clear ht hp
      cases t with
      | true =>
        have HCa := Lib.hid hcall
        clear hcall
        go_wp2_with (go_at_call 115; refine (HCa.out).mono ?_; rintro e w' ⟨rfl, hb'⟩)
        go_roundw
        case rel => exact ⟨k + 1, by omega, by go_num, fun i hi => by rcases Nat.lt_or_ge i k with q | q; exact HA.out i q; rw [show i = k by omega]; exact HT.out, HW.out.trans (hb'.mono HS.out)⟩
        case measure => simp [intOf]; omega
      | false =>
        have HCa := Lib.hid hcall
        clear hcall
        go_wp2_with (go_at_call 115; refine (HCa.out).mono ?_; rintro e w' ⟨rfl, hb'⟩)
        go_ret
        exact ⟨HW.out.trans (hb'.mono HS.out), .inr ⟨k, rfl, M.all_no (by rw [HL.out]; exact hkl) HT.out⟩⟩
    · obtain rfl : k = n := by omega
      have HE : Hid (l.all (M.plW (wrap64 (x - 1))) = true) := M.all_of (fun i hi => HA.out i (by rw [← HL.out]; exact hi))
      go_wp2
      go_ret
      exact ⟨HW.out, .inl ⟨rfl, HE.out⟩⟩
set_option maxRecDepth 100000 in
set_option maxHeartbeats 1000000 in
theorem containsBad (G : Nat) (x : Int) (ga : Option Addr) (gn gc : Nat) (a : Option Addr) (n cap : Nat) (l : List M.Pc) (w : World) (v : Bool) (h : Pls w a n l) (hG : GBox w G x ga gn gc) (hv : l.all (M.plW (wrap64 (x - 1))) = v) :
    Calls Try.prog 73 #[.slice a n cap, .func (.func 115) #[] #[.pointer (some ⟨G, 0, none⟩)]] w fun e w' => e = .returned (.bool (!v)) ∧ Below w.heap.size w w' := by
  have HC := Lib.hid (indexBad G x ga gn gc a n cap l w h hG)
  have HV := Lib.hid hv
  clear h hG hv
  go_enter Try.func73, Try.ntmps73
  go_wp2_with fail
  refine (HC.out).mono ?_
  rintro e w1 ⟨hb, ⟨rfl, hall⟩ | ⟨j, rfl, hall⟩⟩
  · rw [HV.out] at hall
    subst hall
    have HB := Lib.hid hb
    clear hb
    go_wp2
    go_ret
    exact ⟨rfl, HB.out⟩
  · rw [HV.out] at hall
    subst hall
    have hj0 : (0 : Int) ≤ (j : Int) := by omega
    have HB := Lib.hid hb
    clear hb
    go_wp2
    go_ret
    exact ⟨rfl, HB.out⟩
set_option maxRecDepth 100000 in
set_option maxHeartbeats 1000000 in
theorem isEventGraph (x : Int) (a : Option Addr) (n cap : Nat) (l : List M.Pc) (w : World) (h : Pls w a n l) :
    Calls Try.prog 62 #[.agg #[.int .i64 x, .slice a n cap]] w fun e w' => e = .returned (.bool (M.isGr x l)) ∧ Below w.heap.size w w' := by
  have hm := h.2.1
  unfold maxLen at hm
  obtain ⟨r, hr⟩ : ∃ r, r = M.isGr x l := ⟨_, rfl⟩
  have HR := Lib.hid hr
  rw [← hr]
  have HL : Hid (l.length = n) := h.1
  have HI := Lib.hid h
  clear hr h
  by_cases h1 : x < 1
  · have e : r = false := by rw [HR.out]; unfold M.isGr M.inB; rw [decide_eq_false (show ¬ 1 ≤ x by omega)]; rfl
    subst e
    go_enter Try.func62, Try.ntmps62
    go_wp2
    go_ret
    exact ⟨rfl, b_alloc _ _⟩
  · by_cases h2 : 10 < x
    · have e : r = false := by rw [HR.out]; unfold M.isGr M.inB; rw [decide_eq_false (show ¬ x ≤ 10 by omega), Bool.and_false]; rfl
      subst e
      go_enter Try.func62, Try.ntmps62
      go_wp2
      go_ret
      exact ⟨rfl, b_alloc _ _⟩
    · have hin : M.inB x 1 10 = true := by unfold M.inB; rw [decide_eq_true (show 1 ≤ x by omega), decide_eq_true (show x ≤ 10 by omega)]; rfl
      by_cases h3 : 30 < n
      · have e : r = false := by rw [HR.out]; unfold M.isGr; rw [decide_eq_false (show ¬ l.length ≤ 30 by rw [HL.out]; omega), Bool.false_and, Bool.and_false]
        subst e
        clear hin
        go_enter Try.func62, Try.ntmps62
        go_wp2
        go_ret
        exact ⟨rfl, b_alloc _ _⟩
      · have e : l.all (M.plW (wrap64 (x - 1))) = r := by
          rw [HR.out]; unfold M.isGr; rw [hin, decide_eq_true (show l.length ≤ 30 by rw [HL.out]; omega), Bool.true_and, Bool.true_and, ev_wrap hin]
        have HT := Lib.hid (containsBad w.heap.size x a n cap a n cap l (w.alloc (.cells #[.int .i64 x, .slice a n cap] 26)) r (HI.out.below (b_alloc w _)) (gBox_new _ _ _ _ _ _) e)
        clear hin e
        go_enter Try.func62, Try.ntmps62
        go_wp2_with fail
        refine (HT.out).mono ?_
        rintro e w2 ⟨rfl, hb2⟩
        have HB := Lib.hid ((b_alloc w (.cells #[.int .i64 x, .slice a n cap] 26)).trans (hb2.mono (by simp)))
        clear hb2
        go_wp2
        go_ret
        exact ⟨by simp, HB.out⟩
end V
end Go.Proofs.Ytobdgboejbbfiaa

namespace Go.Proofs.Ytobdgboejbbfiaa
namespace M
def pTo (p : Pc) : Int := p.2.1
def pFrom (p : Pc) : Int := p.1
def plcL (f : Pc → Int) (l : List Pc) (ev : Int) (k : Nat) : List Int := ((List.range k).filter fun i => decide (f (l.getD i pz) = ev)).map fun i : Nat => (i : Int)
def evCode (e : Int) (l : List Pc) (ev : Int) : Int := if isGr e l then (if inB ev 0 (e - 1) then 0 else 2) else 1
def plcRes (f : Pc → Int) (e : Int) (l : List Pc) (ev : Int) : List Int × Int := if isGr e l then (if inB ev 0 (e - 1) then (plcL f l ev l.length, 0) else ([], 2)) else ([], 1)
theorem plcL_next (f : Pc → Int) (l : List Pc) (ev : Int) (k : Nat) : plcL f l ev (k + 1) = if f (l.getD k pz) = ev then plcL f l ev k ++ [(k : Int)] else plcL f l ev k := by
  unfold plcL
  rw [List.range_succ, List.filter_append, List.map_append]
  by_cases h : f (l.getD k pz) = ev
  · rw [if_pos h, List.filter_cons_of_pos (by rw [decide_eq_true_iff]; exact h)]; rfl
  · rw [if_neg h, List.filter_cons_of_neg (by rw [decide_eq_true_iff]; exact h)]; simp
theorem plcL_len (f : Pc → Int) (l : List Pc) (ev : Int) (k : Nat) : (plcL f l ev k).length ≤ k := by
  unfold plcL
  rw [List.length_map]
  exact Nat.le_trans (List.length_filter_le _ _) (by simp)
theorem plcRes_len (f : Pc → Int) (e : Int) (l : List Pc) (ev : Int) : (plcRes f e l ev).1.length ≤ 30 := by
  unfold plcRes
  cases h : isGr e l with
  | false => simp
  | true =>
    have hl : l.length ≤ 30 := by
      unfold isGr at h
      simp only [Bool.and_eq_true, decide_eq_true_iff] at h
      exact h.2.1
    cases h2 : inB ev 0 (e - 1) with
    | false => simp
    | true => have := plcL_len f l ev l.length; simp; omega
theorem isGr_in {e : Int} {l : List Pc} (h : isGr e l = true) : inB e 1 10 = true ∧ l.length ≤ 30 := by
  unfold isGr at h
  simp only [Bool.and_eq_true, decide_eq_true_iff] at h
  exact ⟨h.1, h.2.1⟩
end M
namespace V
set_option maxRecDepth 100000
open Go.RowKit
set_option maxRecDepth 100000 in
set_option maxHeartbeats 1000000 in
theorem sEvent (x : Int) (a : Option Addr) (n cap : Nat) (l : List M.Pc) (ev : Int) (w : World) (h : Pls w a n l) :
    Calls Try.prog 94 #[.agg #[.int .i64 x, .slice a n cap], .int .i64 ev] w fun e w' => e = .returned (.int .i64 (M.evCode x l ev)) ∧ Below w.heap.size w w' := by
  have hb0 := b_alloc w (.cells #[.int .i64 x, .slice a n cap] 26)
  obtain ⟨r, hr⟩ : ∃ r, r = M.isGr x l := ⟨_, rfl⟩
  have HS : Hid (Calls Try.prog 68 #[.agg #[.int .i64 x, .slice a n cap]] (w.alloc (.cells #[.int .i64 x, .slice a n cap] 26)) fun e w' => e = .returned (.bool r) ∧ Below (w.alloc (.cells #[.int .i64 x, .slice a n cap] 26)).heap.size (w.alloc (.cells #[.int .i64 x, .slice a n cap] 26)) w') := by
    rw [hr]; exact sIsEventGraph x a n cap l _ (h.below hb0)
  have HIn : Hid (r = true → M.inB x 1 10 = true) := fun q => (M.isGr_in (hr.symm.trans q)).1
  have HCd : Hid (∀ b, M.inB ev 0 (x - 1) = b → M.evCode x l ev = if r then (if b then 0 else 2) else 1) := fun b q => by unfold M.evCode; rw [q, ← hr]
  have hG := gBox_new w x a n cap 26
  obtain ⟨wb, hwb⟩ : ∃ z, z = w.alloc (.cells #[.int .i64 x, .slice a n cap] 26) := ⟨_, rfl⟩
  rw [← hwb] at HS hb0 hG
  have HG := Lib.hid hG
  have HB0 := Lib.hid hb0
  clear hr h hG hb0
  go_enter Try.func94, Try.ntmps94
  go_wp2_with fail
  rw [← hwb]
  clear hwb
  refine (HS.out).mono ?_
  rintro e w1 ⟨rfl, hb1⟩
  have HB1 := Lib.hid (HB0.out.trans (hb1.mono HB0.out.size))
  obtain ⟨g0, g1⟩ := HG.out.below hb1
  clear hb1
  cases r with
  | false =>
    have HE := Lib.hid (HCd.out _ rfl)
    go_wp2
    go_ret
    exact ⟨by rw [HE.out]; rfl, HB1.out⟩
  | true =>
    have hin := HIn.out rfl
    have hx : 1 ≤ x ∧ x ≤ 10 := by unfold M.inB at hin; simp at hin; exact hin
    clear hin
    cases h0 : (decide (0 ≤ ev) && decide (ev ≤ x - 1)) with
    | false =>
      have HE := Lib.hid (HCd.out false h0)
      go_wp2_with (go_at_call 85; refine (sIn _ _ _ _).mono ?_; rintro e w' ⟨rfl, rfl⟩)
      go_ret
      exact ⟨by rw [HE.out]; rfl, HB1.out⟩
    | true =>
      have HE := Lib.hid (HCd.out true h0)
      go_wp2_with (go_at_call 85; refine (sIn _ _ _ _).mono ?_; rintro e w' ⟨rfl, rfl⟩)
      go_ret
      exact ⟨by rw [HE.out]; rfl, HB1.out⟩
set_option maxRecDepth 100000 in
set_option maxHeartbeats 2000000 in
theorem sPlacesInto (x : Int) (a : Option Addr) (n cap : Nat) (l : List M.Pc) (ev : Int) (w : World) (h : Pls w a n l) (hn : n ≤ 30) :
    Calls Try.prog 75 #[.agg #[.int .i64 x, .slice a n cap], .int .i64 ev, .bool true] w fun e w' => ∃ b c, e = .returned (.slice b (M.plcL M.pTo l ev n).length c) ∧ Own w' w.heap.size (.slice b (M.plcL M.pTo l ev n).length c) (M.plcL M.pTo l ev n) ∧ Below w.heap.size w w' := by
  have HI := Lib.hid h
  have hO0 : Hid (Own ((w.alloc (.cells #[.int .i64 x, .slice a n cap] 26)).alloc (.cells #[] 2)) (w.heap.size + 1) (.slice (some ⟨w.heap.size + 1, 0, none⟩) 0 0) (M.plcL M.pTo l ev 0)) := by
    have := own_lit0 (w.alloc (.cells #[.int .i64 x, .slice a n cap] 26)) (w.heap.size + 1) (by simp)
    show Own _ _ _ []
    simpa using this
  have hB0 : Hid (Below w.heap.size w ((w.alloc (.cells #[.int .i64 x, .slice a n cap] 26)).alloc (.cells #[] 2))) := b_alloc2 w _ _
  have hG0 : Hid (GBox ((w.alloc (.cells #[.int .i64 x, .slice a n cap] 26)).alloc (.cells #[] 2)) w.heap.size x a n cap) := (gBox_new w x a n cap 26).below (b_alloc _ _)
  clear h
  go_enter Try.func75, Try.ntmps75
  go_wp2
  go_loopw [7, 8] (fun lv kv wr => ∃ (k : Nat) (b : Option Addr) (c : Nat), k ≤ n ∧ kv = .int .i64 k ∧ lv = .slice b (M.plcL M.pTo l ev k).length c ∧ Hid (Own wr (w.heap.size + 1) (.slice b (M.plcL M.pTo l ev k).length c) (M.plcL M.pTo l ev k)) ∧ Hid (GBox wr w.heap.size x a n cap) ∧ Hid (Below w.heap.size w wr)) (fun _ kv _ => n - (intOf kv).toNat)
  case atStart => exact ⟨0, _, _, Nat.zero_le _, rfl, rfl, hO0, hG0, hB0⟩
  case round =>
    obtain ⟨k, b, c, hk, rfl, rfl, HO, HG, HB⟩ := hrel
    obtain ⟨wo, rfl⟩ : ∃ x, x = wr := ⟨_, rfl⟩
    clear hO0 hB0 hG0
    obtain ⟨g0, g1⟩ := HG.out
    by_cases hkl : k < n
    · have hki : (k : Int) < (n : Int) := by omega
      obtain ⟨pb, off, p0, p1, p2, p3, rfl, -, hp, c0, c1, c2, c3⟩ := (HI.out.below HB.out).at k hkl
      have hsz := HB.out.size
      have hsz1 : w.heap.size + 1 ≤ wo.heap.size := cell_lt g0
      have hlen : (M.plcL M.pTo l ev k).length ≤ 30 := by have := M.plcL_len M.pTo l ev k; omega
      have hNx : M.plcL M.pTo l ev (k + 1) = if p1 = ev then M.plcL M.pTo l ev k ++ [(k : Int)] else M.plcL M.pTo l ev k := by
        have := M.plcL_next M.pTo l ev k
        rw [hp] at this
        exact this
      by_cases he : p1 = ev
      · have HN : Hid (M.plcL M.pTo l ev (k + 1) = M.plcL M.pTo l ev k ++ [(k : Int)]) := by show _ = _; rw [hNx, if_pos he]
        have HNl : Hid ((M.plcL M.pTo l ev (k + 1)).length = (M.plcL M.pTo l ev k).length + 1) := by show _ = _; rw [HN.out]; simp
        obtain ⟨L, hL⟩ : ∃ L, L = (M.plcL M.pTo l ev k).length := ⟨_, rfl⟩
        rw [← hL] at HO HNl hlen ⊢
        have HLl := Lib.hid hL.symm
        have heb : (p1 == ev) = true := by simpa using he
        clear hL hNx hp
        go_wp2_with (at_builtin; refine append1 _ rfl (.tmp 42) (.tmp 44) rfl (w.heap.size + 1) _ _ _ L HLl.out rfl HO.out rfl (by rw [HLl.out]; omega) hsz1 ?_)
        intro b2 c2' w2 hO2 hb2 hk2
        rw [← HN.out, ← HNl.out] at hO2
        have HO2 := Lib.hid hO2
        have HB2 := Lib.hid (HB.out.trans (hb2.mono (by omega)))
        have HG2 : Hid (GBox w2 w.heap.size x (some ⟨pb, off, none⟩) n cap) := by
          have hne : (Value.slice b L c).ownBlock ≠ some w.heap.size := fun q => absurd (own_lt HO.out q).1 (by omega)
          have e := hk2 w.heap.size (cell_lt g0) hne
          exact ⟨(World.cell?_of_block (a := ⟨w.heap.size, 0, none⟩) e).trans g0, (World.cell?_of_block (a := ⟨w.heap.size, 1, none⟩) e).trans g1⟩
        rw [← HNl.out]
        clear hO2 hb2 hk2
        go_wp2
        go_roundw
        case rel => exact ⟨k + 1, _, _, by omega, by go_num, rfl, HO2, HG2, HB2⟩
        case measure => simp [intOf]; omega
      · have HN : Hid (M.plcL M.pTo l ev (k + 1) = M.plcL M.pTo l ev k) := by show _ = _; rw [hNx, if_neg he]
        have heb : (p1 == ev) = false := by simpa using he
        clear hNx hp
        go_wp2
        go_roundw
        case rel => exact ⟨k + 1, _, _, by omega, by go_num, by rw [HN.out], by rw [HN.out]; exact HO, HG, HB⟩
        case measure => simp [intOf]; omega
    · obtain rfl : k = n := by omega
      go_wp2
      go_ret
      exact ⟨_, _, rfl, HO.out.mono (by omega), HB.out⟩
set_option maxRecDepth 100000 in
set_option maxHeartbeats 2000000 in
theorem sPlacesFrom (x : Int) (a : Option Addr) (n cap : Nat) (l : List M.Pc) (ev : Int) (w : World) (h : Pls w a n l) (hn : n ≤ 30) :
    Calls Try.prog 75 #[.agg #[.int .i64 x, .slice a n cap], .int .i64 ev, .bool false] w fun e w' => ∃ b c, e = .returned (.slice b (M.plcL M.pFrom l ev n).length c) ∧ Own w' w.heap.size (.slice b (M.plcL M.pFrom l ev n).length c) (M.plcL M.pFrom l ev n) ∧ Below w.heap.size w w' := by
  have HI := Lib.hid h
  have hO0 : Hid (Own ((w.alloc (.cells #[.int .i64 x, .slice a n cap] 26)).alloc (.cells #[] 2)) (w.heap.size + 1) (.slice (some ⟨w.heap.size + 1, 0, none⟩) 0 0) (M.plcL M.pFrom l ev 0)) := by
    have := own_lit0 (w.alloc (.cells #[.int .i64 x, .slice a n cap] 26)) (w.heap.size + 1) (by simp)
    show Own _ _ _ []
    simpa using this
  have hB0 : Hid (Below w.heap.size w ((w.alloc (.cells #[.int .i64 x, .slice a n cap] 26)).alloc (.cells #[] 2))) := b_alloc2 w _ _
  have hG0 : Hid (GBox ((w.alloc (.cells #[.int .i64 x, .slice a n cap] 26)).alloc (.cells #[] 2)) w.heap.size x a n cap) := (gBox_new w x a n cap 26).below (b_alloc _ _)
  clear h
  go_enter Try.func75, Try.ntmps75
  go_wp2
  go_loopw [7, 8] (fun lv kv wr => ∃ (k : Nat) (b : Option Addr) (c : Nat), k ≤ n ∧ kv = .int .i64 k ∧ lv = .slice b (M.plcL M.pFrom l ev k).length c ∧ Hid (Own wr (w.heap.size + 1) (.slice b (M.plcL M.pFrom l ev k).length c) (M.plcL M.pFrom l ev k)) ∧ Hid (GBox wr w.heap.size x a n cap) ∧ Hid (Below w.heap.size w wr)) (fun _ kv _ => n - (intOf kv).toNat)
  case atStart => exact ⟨0, _, _, Nat.zero_le _, rfl, rfl, hO0, hG0, hB0⟩
  case round =>
    obtain ⟨k, b, c, hk, rfl, rfl, HO, HG, HB⟩ := hrel
    obtain ⟨wo, rfl⟩ : ∃ x, x = wr := ⟨_, rfl⟩
    clear hO0 hB0 hG0
    obtain ⟨g0, g1⟩ := HG.out
    by_cases hkl : k < n
    · have hki : (k : Int) < (n : Int) := by omega
      obtain ⟨pb, off, p0, p1, p2, p3, rfl, -, hp, c0, c1, c2, c3⟩ := (HI.out.below HB.out).at k hkl
      have hsz := HB.out.size
      have hsz1 : w.heap.size + 1 ≤ wo.heap.size := cell_lt g0
      have hlen : (M.plcL M.pFrom l ev k).length ≤ 30 := by have := M.plcL_len M.pFrom l ev k; omega
      have hNx : M.plcL M.pFrom l ev (k + 1) = if p0 = ev then M.plcL M.pFrom l ev k ++ [(k : Int)] else M.plcL M.pFrom l ev k := by
        have := M.plcL_next M.pFrom l ev k
        rw [hp] at this
        exact this
      by_cases he : p0 = ev
      · have HN : Hid (M.plcL M.pFrom l ev (k + 1) = M.plcL M.pFrom l ev k ++ [(k : Int)]) := by show _ = _; rw [hNx, if_pos he]
        have HNl : Hid ((M.plcL M.pFrom l ev (k + 1)).length = (M.plcL M.pFrom l ev k).length + 1) := by show _ = _; rw [HN.out]; simp
        obtain ⟨L, hL⟩ : ∃ L, L = (M.plcL M.pFrom l ev k).length := ⟨_, rfl⟩
        rw [← hL] at HO HNl hlen ⊢
        have HLl := Lib.hid hL.symm
        have heb : (p0 == ev) = true := by simpa using he
        clear hL hNx hp
        go_wp2_with (at_builtin; refine append1 _ rfl (.tmp 42) (.tmp 44) rfl (w.heap.size + 1) _ _ _ L HLl.out rfl HO.out rfl (by rw [HLl.out]; omega) hsz1 ?_)
        intro b2 c2' w2 hO2 hb2 hk2
        rw [← HN.out, ← HNl.out] at hO2
        have HO2 := Lib.hid hO2
        have HB2 := Lib.hid (HB.out.trans (hb2.mono (by omega)))
        have HG2 : Hid (GBox w2 w.heap.size x (some ⟨pb, off, none⟩) n cap) := by
          have hne : (Value.slice b L c).ownBlock ≠ some w.heap.size := fun q => absurd (own_lt HO.out q).1 (by omega)
          have e := hk2 w.heap.size (cell_lt g0) hne
          exact ⟨(World.cell?_of_block (a := ⟨w.heap.size, 0, none⟩) e).trans g0, (World.cell?_of_block (a := ⟨w.heap.size, 1, none⟩) e).trans g1⟩
        rw [← HNl.out]
        clear hO2 hb2 hk2
        go_wp2
        go_roundw
        case rel => exact ⟨k + 1, _, _, by omega, by go_num, rfl, HO2, HG2, HB2⟩
        case measure => simp [intOf]; omega
      · have HN : Hid (M.plcL M.pFrom l ev (k + 1) = M.plcL M.pFrom l ev k) := by show _ = _; rw [hNx, if_neg he]
        have heb : (p0 == ev) = false := by simpa using he
        clear hNx hp
        go_wp2
        go_roundw
        case rel => exact ⟨k + 1, _, _, by omega, by go_num, by rw [HN.out], by rw [HN.out]; exact HO, HG, HB⟩
        case measure => simp [intOf]; omega
    · obtain rfl : k = n := by omega
      go_wp2
      go_ret
      exact ⟨_, _, rfl, HO.out.mono (by omega), HB.out⟩
set_option maxRecDepth 100000 in
set_option maxHeartbeats 2000000 in
theorem sPlacesIntoX (x : Int) (a : Option Addr) (n cap : Nat) (l : List M.Pc) (ev : Int) (w : World) (h : Pls w a n l) :
    Calls Try.prog 44 #[.agg #[.int .i64 x, .slice a n cap], .int .i64 ev] w (VRes (M.plcRes M.pTo x l ev) w) := by
  have HI := Lib.hid h
  have HL : Hid (l.length = n) := h.1
  have hb0 := b_alloc w (.cells #[.int .i64 x, .slice a n cap] 26)
  have hG := gBox_new w x a n cap 26
  obtain ⟨wb, hwb⟩ : ∃ z, z = w.alloc (.cells #[.int .i64 x, .slice a n cap] 26) := ⟨_, rfl⟩
  rw [← hwb] at hb0 hG
  obtain ⟨cd, hcd⟩ : ∃ c, c = M.evCode x l ev := ⟨_, rfl⟩
  have HS : Hid (Calls Try.prog 94 #[.agg #[.int .i64 x, .slice a n cap], .int .i64 ev] wb fun e w' => e = .returned (.int .i64 cd) ∧ Below wb.heap.size wb w') := by rw [hcd]; exact sEvent x a n cap l ev wb (h.below hb0)
  have HR0 : Hid (cd = 0 → M.plcRes M.pTo x l ev = (M.plcL M.pTo l ev n, 0) ∧ n ≤ 30) := fun q => by
    rw [hcd] at q
    unfold M.evCode at q
    unfold M.plcRes
    cases hg : M.isGr x l with
    | false => rw [hg] at q; simp at q
    | true =>
      rw [hg] at q
      cases he : M.inB ev 0 (x - 1) with
      | false => rw [he] at q; simp at q
      | true => rw [HL.out]; exact ⟨rfl, by rw [← HL.out]; exact (M.isGr_in hg).2⟩
  have HR1 : Hid (cd ≠ 0 → M.plcRes M.pTo x l ev = ([], cd)) := fun q => by
    rw [hcd] at q ⊢
    unfold M.evCode at q ⊢
    unfold M.plcRes
    cases hg : M.isGr x l with
    | false => rfl
    | true =>
      rw [hg] at q
      cases he : M.inB ev 0 (x - 1) with
      | false => rfl
      | true => rw [he] at q; simp at q
  have HG := Lib.hid hG
  have HB0 := Lib.hid hb0
  clear h hG hb0 hcd
  go_enter Try.func44, Try.ntmps44
  go_wp2_with fail
  rw [← hwb]
  clear hwb
  refine (HS.out).mono ?_
  rintro e w1 ⟨rfl, hb1⟩
  have HB1 := Lib.hid (HB0.out.trans (hb1.mono HB0.out.size))
  obtain ⟨g0, g1⟩ := HG.out.below hb1
  clear hb1
  by_cases h0 : cd = 0
  · obtain ⟨hr, hn⟩ := HR0.out h0
    have HR := Lib.hid hr
    subst h0
    clear hr
    go_wp2_with fail
    refine (sPlacesInto x a n cap l ev w1 (HI.out.below HB1.out) hn).mono ?_
    rintro e w2 ⟨b, c, rfl, ho, hb2⟩
    have HO := Lib.hid (ho.mono HB1.out.size)
    have HB2 := Lib.hid (HB1.out.trans (hb2.mono HB1.out.size))
    clear ho hb2
    go_wp2
    go_ret2
    rw [HR.out]
    exact ⟨_, _, _, rfl, HO.out, HB2.out⟩
  · have HR := Lib.hid (HR1.out h0)
    have hb : (cd != 0) = true := by simpa using h0
    go_wp2
    go_ret2
    exact VRes.nil HR.out HB1.out
set_option maxRecDepth 100000 in
set_option maxHeartbeats 400000 in
theorem endInto (p0 p1 p2 p3 : Int) (w : World) : Calls Try.prog 93 #[.agg #[.int .i64 p0, .int .i64 p1, .int .i64 p2, .int .i64 p3]] w fun e w' => e = .returned (.int .i64 p1) ∧ Below w.heap.size w w' := by
  go_enter Try.func93, Try.ntmps93
  go_wp2
  go_ret
  exact ⟨rfl, b_alloc _ _⟩
set_option maxRecDepth 100000 in
set_option maxHeartbeats 4000000 in
theorem placesAtInto (x : Int) (a : Option Addr) (n cap : Nat) (l : List M.Pc) (ev : Int) (w : World) (h : Pls w a n l) :
    Calls Try.prog 92 #[.agg #[.int .i64 x, .slice a n cap], .int .i64 ev, .func (.func 93) #[] #[]] w (VRes (M.plcRes M.pTo x l ev) w) := by
  have HI := Lib.hid h
  have HL : Hid (l.length = n) := h.1
  have hm := h.2.1
  unfold maxLen at hm
  have hb0 := b_alloc w (.cells #[.int .i64 x, .slice a n cap] 26)
  have hG := gBox_new w x a n cap 26
  obtain ⟨wb, hwb⟩ : ∃ z, z = w.alloc (.cells #[.int .i64 x, .slice a n cap] 26) := ⟨_, rfl⟩
  rw [← hwb] at hb0 hG
  obtain ⟨r, hr⟩ : ∃ r, r = M.isGr x l := ⟨_, rfl⟩
  have HS : Hid (Calls Try.prog 62 #[.agg #[.int .i64 x, .slice a n cap]] wb fun e w' => e = .returned (.bool r) ∧ Below wb.heap.size wb w') := by rw [hr]; exact isEventGraph x a n cap l wb (h.below hb0)
  have HG := Lib.hid hG
  have HB0 := Lib.hid hb0
  have HRr := Lib.hid hr
  clear h hG hb0 hr
  go_enter Try.func92, Try.ntmps92
  go_wp2_with fail
  rw [← hwb]
  clear hwb
  refine (HS.out).mono ?_
  rintro e w1 ⟨rfl, hb1⟩
  have HB1 := Lib.hid (HB0.out.trans (hb1.mono HB0.out.size))
  have HG1 := Lib.hid (HG.out.below hb1)
  obtain ⟨g0, g1⟩ := HG1.out
  clear hb1
  cases r with
  | false =>
    have HR : Hid (M.plcRes M.pTo x l ev = ([], 1)) := by show _ = _; unfold M.plcRes; rw [← HRr.out]; rfl
    go_wp2
    go_ret2
    exact VRes.nil HR.out HB1.out
  | true =>
    have hw := ev_wrap (M.isGr_in HRr.out.symm).1
    have hn30 : n ≤ 30 := by have := (M.isGr_in HRr.out.symm).2; rw [HL.out] at this; exact this
    obtain ⟨v, hv⟩ : ∃ v, v = M.inB ev 0 (x - 1) := ⟨_, rfl⟩
    have HH : Hid (∀ w, Calls Try.prog 87 #[.agg #[.int .i64 x, .slice a n cap], .int .i64 ev] w fun e w' => e = .returned (.bool v) ∧ Below w.heap.size w w') := fun w => by rw [hv, ← hw]; exact hasEvent x a n cap ev w
    have HV := Lib.hid hv
    clear hw hv
    go_wp2_with fail
    refine (HH.out w1).mono ?_
    rintro e w2 ⟨rfl, hb2⟩
    have HB2 := Lib.hid (HB1.out.trans (hb2.mono HB1.out.size))
    have HG2 := Lib.hid (HG1.out.below hb2)
    clear hb2 g0 g1
    obtain ⟨g0, g1⟩ := HG2.out
    cases v with
    | false =>
      have HR : Hid (M.plcRes M.pTo x l ev = ([], 2)) := by show _ = _; unfold M.plcRes; rw [← HRr.out, ← HV.out]; rfl
      go_wp2
      go_ret2
      exact VRes.nil HR.out HB2.out
    | true =>
      have HR : Hid (M.plcRes M.pTo x l ev = (M.plcL M.pTo l ev n, 0)) := by show _ = _; unfold M.plcRes; rw [← HRr.out, ← HV.out, HL.out]; rfl
      have HE : Hid (∀ p0 p1 p2 p3 w, Calls Try.prog 93 #[.agg #[.int .i64 p0, .int .i64 p1, .int .i64 p2, .int .i64 p3]] w fun e w' => e = .returned (.int .i64 p1) ∧ Below w.heap.size w w') := endInto
      have hO0 : Hid (Own w2 w2.heap.size (.slice none 0 0) (M.plcL M.pTo l ev 0)) := own_nil _ _
      go_wp2
      go_loopw [8, 21] (fun lv kv wr => ∃ (k : Nat) (b : Option Addr) (c : Nat), k ≤ n ∧ kv = .int .i64 k ∧ lv = .slice b (M.plcL M.pTo l ev k).length c ∧ Hid (Own wr w2.heap.size (.slice b (M.plcL M.pTo l ev k).length c) (M.plcL M.pTo l ev k)) ∧ Hid (Below w2.heap.size w2 wr)) (fun _ kv _ => n - (intOf kv).toNat)
      case atStart => exact ⟨0, _, _, Nat.zero_le _, rfl, rfl, hO0, Below.refl _ _⟩
      case round =>
        obtain ⟨k, b, c, hk, rfl, rfl, HO, HB⟩ := hrel
        obtain ⟨wo, rfl⟩ : ∃ x, x = wr := ⟨_, rfl⟩
        clear hO0
        by_cases hkl : k < n
        · have hki : (k : Int) < (n : Int) := by omega
          obtain ⟨pb, off, p0, p1, p2, p3, rfl, -, hp, c0, c1, c2, c3⟩ := ((HI.out.below HB2.out).below HB.out).at k hkl
          have hsz := HB.out.size
          have hlen : (M.plcL M.pTo l ev k).length ≤ 30 := by have := M.plcL_len M.pTo l ev k; omega
          have hNx : M.plcL M.pTo l ev (k + 1) = if p1 = ev then M.plcL M.pTo l ev k ++ [(k : Int)] else M.plcL M.pTo l ev k := by
            have := M.plcL_next M.pTo l ev k
            rw [hp] at this
            exact this
          have HNx := Lib.hid hNx
          clear hNx hp
          go_wp2_with fail
          refine (HE.out p0 p1 p2 p3 _).mono ?_
          rintro e w3 ⟨rfl, hb3⟩
          have hb3' : Below wo.heap.size wo w3 := (b_alloc wo _).trans (hb3.mono (by simp))
          have HO3 := Lib.hid (HO.out.below hb3')
          have HB3 := Lib.hid (HB.out.trans (hb3'.mono hsz))
          have hsz3 := HB3.out.size
          clear hb3 hb3'
          by_cases he : p1 = ev
          · have HN : Hid (M.plcL M.pTo l ev (k + 1) = M.plcL M.pTo l ev k ++ [(k : Int)]) := by show _ = _; rw [HNx.out, if_pos he]
            have HNl : Hid ((M.plcL M.pTo l ev (k + 1)).length = (M.plcL M.pTo l ev k).length + 1) := by show _ = _; rw [HN.out]; simp
            obtain ⟨L, hL⟩ : ∃ L, L = (M.plcL M.pTo l ev k).length := ⟨_, rfl⟩
            rw [← hL] at HO3 HNl hlen ⊢
            have HLl := Lib.hid hL.symm
            have heb : (p1 == ev) = true := by simpa using he
            clear hL
            go_wp2_with (at_builtin; refine append1 _ rfl (.tmp 31) (.tmp 33) rfl w2.heap.size _ _ _ L HLl.out rfl HO3.out rfl (by rw [HLl.out]; omega) hsz3 ?_)
            intro b2 c2' w4 hO2 hb2 _
            rw [← HN.out, ← HNl.out] at hO2
            have HO4 := Lib.hid hO2
            have HB4 := Lib.hid (HB3.out.trans hb2)
            rw [← HNl.out]
            clear hO2 hb2
            go_wp2
            go_roundw
            case rel => exact ⟨k + 1, _, _, by omega, by go_num, rfl, HO4, HB4⟩
            case measure => simp [intOf]; omega
          · have HN : Hid (M.plcL M.pTo l ev (k + 1) = M.plcL M.pTo l ev k) := by show _ = _; rw [HNx.out, if_neg he]
            have heb : (p1 == ev) = false := by simpa using he
            go_wp2
            go_roundw
            case rel => exact ⟨k + 1, _, _, by omega, by go_num, by rw [HN.out], by rw [HN.out]; exact HO3, HB3⟩
            case measure => simp [intOf]; omega
        · obtain rfl : k = n := by omega
          have HOf := Lib.hid (HO.out.mono HB2.out.size)
          have HBf := Lib.hid (HB2.out.trans (HB.out.mono HB2.out.size))
          go_wp2
          go_ret2
          rw [HR.out]
          exact ⟨_, _, _, rfl, HOf.out, HBf.out⟩
set_option maxRecDepth 100000 in
set_option maxHeartbeats 1000000 in
theorem placesInto (x : Int) (a : Option Addr) (n cap : Nat) (l : List M.Pc) (ev : Int) (w : World) (h : Pls w a n l) :
    Calls Try.prog 43 #[.agg #[.int .i64 x, .slice a n cap], .int .i64 ev] w (VRes (M.plcRes M.pTo x l ev) w) := by
  have HC : Hid (Calls Try.prog 92 #[.agg #[.int .i64 x, .slice a n cap], .int .i64 ev, .func (.func 93) #[] #[]] (w.alloc (.cells #[.int .i64 x, .slice a n cap] 26)) (VRes (M.plcRes M.pTo x l ev) (w.alloc (.cells #[.int .i64 x, .slice a n cap] 26)))) := placesAtInto x a n cap l ev _ (h.below (b_alloc w _))
  obtain ⟨r, hr⟩ : ∃ r, r = M.plcRes M.pTo x l ev := ⟨_, rfl⟩
  rw [← hr] at HC ⊢
  unfold VRes at HC
  clear h hr
  go_enter Try.func43, Try.ntmps43
  go_wp2_with fail
  refine (HC.out).mono ?_
  rintro e w1 ⟨a1, n1, c1, rfl, ho, hb⟩
  have HO := Lib.hid (ho.mono (show w.heap.size ≤ _ by simp))
  have HB := Lib.hid ((b_alloc w (.cells #[.int .i64 x, .slice a n cap] 26)).trans (hb.mono (by simp)))
  clear ho hb
  go_wp2
  go_ret2
  exact ⟨_, _, _, rfl, HO.out, HB.out⟩
set_option maxRecDepth 100000 in
set_option maxHeartbeats 2000000 in
theorem sPlacesFromX (x : Int) (a : Option Addr) (n cap : Nat) (l : List M.Pc) (ev : Int) (w : World) (h : Pls w a n l) :
    Calls Try.prog 46 #[.agg #[.int .i64 x, .slice a n cap], .int .i64 ev] w (VRes (M.plcRes M.pFrom x l ev) w) := by
  have HI := Lib.hid h
  have HL : Hid (l.length = n) := h.1
  have hb0 := b_alloc w (.cells #[.int .i64 x, .slice a n cap] 26)
  have hG := gBox_new w x a n cap 26
  obtain ⟨wb, hwb⟩ : ∃ z, z = w.alloc (.cells #[.int .i64 x, .slice a n cap] 26) := ⟨_, rfl⟩
  rw [← hwb] at hb0 hG
  obtain ⟨cd, hcd⟩ : ∃ c, c = M.evCode x l ev := ⟨_, rfl⟩
  have HS : Hid (Calls Try.prog 94 #[.agg #[.int .i64 x, .slice a n cap], .int .i64 ev] wb fun e w' => e = .returned (.int .i64 cd) ∧ Below wb.heap.size wb w') := by rw [hcd]; exact sEvent x a n cap l ev wb (h.below hb0)
  have HR0 : Hid (cd = 0 → M.plcRes M.pFrom x l ev = (M.plcL M.pFrom l ev n, 0) ∧ n ≤ 30) := fun q => by
    rw [hcd] at q
    unfold M.evCode at q
    unfold M.plcRes
    cases hg : M.isGr x l with
    | false => rw [hg] at q; simp at q
    | true =>
      rw [hg] at q
      cases he : M.inB ev 0 (x - 1) with
      | false => rw [he] at q; simp at q
      | true => rw [HL.out]; exact ⟨rfl, by rw [← HL.out]; exact (M.isGr_in hg).2⟩
  have HR1 : Hid (cd ≠ 0 → M.plcRes M.pFrom x l ev = ([], cd)) := fun q => by
    rw [hcd] at q ⊢
    unfold M.evCode at q ⊢
    unfold M.plcRes
    cases hg : M.isGr x l with
    | false => rfl
    | true =>
      rw [hg] at q
      cases he : M.inB ev 0 (x - 1) with
      | false => rfl
      | true => rw [he] at q; simp at q
  have HG := Lib.hid hG
  have HB0 := Lib.hid hb0
  clear h hG hb0 hcd
  go_enter Try.func46, Try.ntmps46
  go_wp2_with fail
  rw [← hwb]
  clear hwb
  refine (HS.out).mono ?_
  rintro e w1 ⟨rfl, hb1⟩
  have HB1 := Lib.hid (HB0.out.trans (hb1.mono HB0.out.size))
  obtain ⟨g0, g1⟩ := HG.out.below hb1
  clear hb1
  by_cases h0 : cd = 0
  · obtain ⟨hr, hn⟩ := HR0.out h0
    have HR := Lib.hid hr
    subst h0
    clear hr
    go_wp2_with fail
    refine (sPlacesFrom x a n cap l ev w1 (HI.out.below HB1.out) hn).mono ?_
    rintro e w2 ⟨b, c, rfl, ho, hb2⟩
    have HO := Lib.hid (ho.mono HB1.out.size)
    have HB2 := Lib.hid (HB1.out.trans (hb2.mono HB1.out.size))
    clear ho hb2
    go_wp2
    go_ret2
    rw [HR.out]
    exact ⟨_, _, _, rfl, HO.out, HB2.out⟩
  · have HR := Lib.hid (HR1.out h0)
    have hb : (cd != 0) = true := by simpa using h0
    go_wp2
    go_ret2
    exact VRes.nil HR.out HB1.out
set_option maxRecDepth 100000 in
set_option maxHeartbeats 400000 in
theorem endFrom (p0 p1 p2 p3 : Int) (w : World) : Calls Try.prog 95 #[.agg #[.int .i64 p0, .int .i64 p1, .int .i64 p2, .int .i64 p3]] w fun e w' => e = .returned (.int .i64 p0) ∧ Below w.heap.size w w' := by
  go_enter Try.func95, Try.ntmps95
  go_wp2
  go_ret
  exact ⟨rfl, b_alloc _ _⟩
set_option maxRecDepth 100000 in
set_option maxHeartbeats 4000000 in
theorem placesAtFrom (x : Int) (a : Option Addr) (n cap : Nat) (l : List M.Pc) (ev : Int) (w : World) (h : Pls w a n l) :
    Calls Try.prog 92 #[.agg #[.int .i64 x, .slice a n cap], .int .i64 ev, .func (.func 95) #[] #[]] w (VRes (M.plcRes M.pFrom x l ev) w) := by
  have HI := Lib.hid h
  have HL : Hid (l.length = n) := h.1
  have hm := h.2.1
  unfold maxLen at hm
  have hb0 := b_alloc w (.cells #[.int .i64 x, .slice a n cap] 26)
  have hG := gBox_new w x a n cap 26
  obtain ⟨wb, hwb⟩ : ∃ z, z = w.alloc (.cells #[.int .i64 x, .slice a n cap] 26) := ⟨_, rfl⟩
  rw [← hwb] at hb0 hG
  obtain ⟨r, hr⟩ : ∃ r, r = M.isGr x l := ⟨_, rfl⟩
  have HS : Hid (Calls Try.prog 62 #[.agg #[.int .i64 x, .slice a n cap]] wb fun e w' => e = .returned (.bool r) ∧ Below wb.heap.size wb w') := by rw [hr]; exact isEventGraph x a n cap l wb (h.below hb0)
  have HG := Lib.hid hG
  have HB0 := Lib.hid hb0
  have HRr := Lib.hid hr
  clear h hG hb0 hr
  go_enter Try.func92, Try.ntmps92
  go_wp2_with fail
  rw [← hwb]
  clear hwb
  refine (HS.out).mono ?_
  rintro e w1 ⟨rfl, hb1⟩
  have HB1 := Lib.hid (HB0.out.trans (hb1.mono HB0.out.size))
  have HG1 := Lib.hid (HG.out.below hb1)
  obtain ⟨g0, g1⟩ := HG1.out
  clear hb1
  cases r with
  | false =>
    have HR : Hid (M.plcRes M.pFrom x l ev = ([], 1)) := by show _ = _; unfold M.plcRes; rw [← HRr.out]; rfl
    go_wp2
    go_ret2
    exact VRes.nil HR.out HB1.out
  | true =>
    have hw := ev_wrap (M.isGr_in HRr.out.symm).1
    have hn30 : n ≤ 30 := by have := (M.isGr_in HRr.out.symm).2; rw [HL.out] at this; exact this
    obtain ⟨v, hv⟩ : ∃ v, v = M.inB ev 0 (x - 1) := ⟨_, rfl⟩
    have HH : Hid (∀ w, Calls Try.prog 87 #[.agg #[.int .i64 x, .slice a n cap], .int .i64 ev] w fun e w' => e = .returned (.bool v) ∧ Below w.heap.size w w') := fun w => by rw [hv, ← hw]; exact hasEvent x a n cap ev w
    have HV := Lib.hid hv
    clear hw hv
    go_wp2_with fail
    refine (HH.out w1).mono ?_
    rintro e w2 ⟨rfl, hb2⟩
    have HB2 := Lib.hid (HB1.out.trans (hb2.mono HB1.out.size))
    have HG2 := Lib.hid (HG1.out.below hb2)
    clear hb2 g0 g1
    obtain ⟨g0, g1⟩ := HG2.out
    cases v with
    | false =>
      have HR : Hid (M.plcRes M.pFrom x l ev = ([], 2)) := by show _ = _; unfold M.plcRes; rw [← HRr.out, ← HV.out]; rfl
      go_wp2
      go_ret2
      exact VRes.nil HR.out HB2.out
    | true =>
      have HR : Hid (M.plcRes M.pFrom x l ev = (M.plcL M.pFrom l ev n, 0)) := by show _ = _; unfold M.plcRes; rw [← HRr.out, ← HV.out, HL.out]; rfl
      have HE : Hid (∀ p0 p1 p2 p3 w, Calls Try.prog 95 #[.agg #[.int .i64 p0, .int .i64 p1, .int .i64 p2, .int .i64 p3]] w fun e w' => e = .returned (.int .i64 p0) ∧ Below w.heap.size w w') := endFrom
      have hO0 : Hid (Own w2 w2.heap.size (.slice none 0 0) (M.plcL M.pFrom l ev 0)) := own_nil _ _
      go_wp2
      go_loopw [8, 21] (fun lv kv wr => ∃ (k : Nat) (b : Option Addr) (c : Nat), k ≤ n ∧ kv = .int .i64 k ∧ lv = .slice b (M.plcL M.pFrom l ev k).length c ∧ Hid (Own wr w2.heap.size (.slice b (M.plcL M.pFrom l ev k).length c) (M.plcL M.pFrom l ev k)) ∧ Hid (Below w2.heap.size w2 wr)) (fun _ kv _ => n - (intOf kv).toNat)
      case atStart => exact ⟨0, _, _, Nat.zero_le _, rfl, rfl, hO0, Below.refl _ _⟩
      case round =>
        obtain ⟨k, b, c, hk, rfl, rfl, HO, HB⟩ := hrel
        obtain ⟨wo, rfl⟩ : ∃ x, x = wr := ⟨_, rfl⟩
        clear hO0
        by_cases hkl : k < n
        · have hki : (k : Int) < (n : Int) := by omega
          obtain ⟨pb, off, p0, p1, p2, p3, rfl, -, hp, c0, c1, c2, c3⟩ := ((HI.out.below HB2.out).below HB.out).at k hkl
          have hsz := HB.out.size
          have hlen : (M.plcL M.pFrom l ev k).length ≤ 30 := by have := M.plcL_len M.pFrom l ev k; omega
          have hNx : M.plcL M.pFrom l ev (k + 1) = if p0 = ev then M.plcL M.pFrom l ev k ++ [(k : Int)] else M.plcL M.pFrom l ev k := by
            have := M.plcL_next M.pFrom l ev k
            rw [hp] at this
            exact this
          have HNx := Lib.hid hNx
          clear hNx hp
          go_wp2_with fail
          refine (HE.out p0 p1 p2 p3 _).mono ?_
          rintro e w3 ⟨rfl, hb3⟩
          have hb3' : Below wo.heap.size wo w3 := (b_alloc wo _).trans (hb3.mono (by simp))
          have HO3 := Lib.hid (HO.out.below hb3')
          have HB3 := Lib.hid (HB.out.trans (hb3'.mono hsz))
          have hsz3 := HB3.out.size
          clear hb3 hb3'
          by_cases he : p0 = ev
          · have HN : Hid (M.plcL M.pFrom l ev (k + 1) = M.plcL M.pFrom l ev k ++ [(k : Int)]) := by show _ = _; rw [HNx.out, if_pos he]
            have HNl : Hid ((M.plcL M.pFrom l ev (k + 1)).length = (M.plcL M.pFrom l ev k).length + 1) := by show _ = _; rw [HN.out]; simp
            obtain ⟨L, hL⟩ : ∃ L, L = (M.plcL M.pFrom l ev k).length := ⟨_, rfl⟩
            rw [← hL] at HO3 HNl hlen ⊢
            have HLl := Lib.hid hL.symm
            have heb : (p0 == ev) = true := by simpa using he
            clear hL
            go_wp2_with (at_builtin; refine append1 _ rfl (.tmp 31) (.tmp 33) rfl w2.heap.size _ _ _ L HLl.out rfl HO3.out rfl (by rw [HLl.out]; omega) hsz3 ?_)
            intro b2 c2' w4 hO2 hb2 _
            rw [← HN.out, ← HNl.out] at hO2
            have HO4 := Lib.hid hO2
            have HB4 := Lib.hid (HB3.out.trans hb2)
            rw [← HNl.out]
            clear hO2 hb2
            go_wp2
            go_roundw
            case rel => exact ⟨k + 1, _, _, by omega, by go_num, rfl, HO4, HB4⟩
            case measure => simp [intOf]; omega
          · have HN : Hid (M.plcL M.pFrom l ev (k + 1) = M.plcL M.pFrom l ev k) := by show _ = _; rw [HNx.out, if_neg he]
            have heb : (p0 == ev) = false := by simpa using he
            go_wp2
            go_roundw
            case rel => exact ⟨k + 1, _, _, by omega, by go_num, by rw [HN.out], by rw [HN.out]; exact HO3, HB3⟩
            case measure => simp [intOf]; omega
        · obtain rfl : k = n := by omega
          have HOf := Lib.hid (HO.out.mono HB2.out.size)
          have HBf := Lib.hid (HB2.out.trans (HB.out.mono HB2.out.size))
          go_wp2
          go_ret2
          rw [HR.out]
          exact ⟨_, _, _, rfl, HOf.out, HBf.out⟩
set_option maxRecDepth 100000 in
set_option maxHeartbeats 1000000 in
theorem placesFrom (x : Int) (a : Option Addr) (n cap : Nat) (l : List M.Pc) (ev : Int) (w : World) (h : Pls w a n l) :
    Calls Try.prog 45 #[.agg #[.int .i64 x, .slice a n cap], .int .i64 ev] w (VRes (M.plcRes M.pFrom x l ev) w) := by
  have HC : Hid (Calls Try.prog 92 #[.agg #[.int .i64 x, .slice a n cap], .int .i64 ev, .func (.func 95) #[] #[]] (w.alloc (.cells #[.int .i64 x, .slice a n cap] 26)) (VRes (M.plcRes M.pFrom x l ev) (w.alloc (.cells #[.int .i64 x, .slice a n cap] 26)))) := placesAtFrom x a n cap l ev _ (h.below (b_alloc w _))
  obtain ⟨r, hr⟩ : ∃ r, r = M.plcRes M.pFrom x l ev := ⟨_, rfl⟩
  rw [← hr] at HC ⊢
  unfold VRes at HC
  clear h hr
  go_enter Try.func45, Try.ntmps45
  go_wp2_with fail
  refine (HC.out).mono ?_
  rintro e w1 ⟨a1, n1, c1, rfl, ho, hb⟩
  have HO := Lib.hid (ho.mono (show w.heap.size ≤ _ by simp))
  have HB := Lib.hid ((b_alloc w (.cells #[.int .i64 x, .slice a n cap] 26)).trans (hb.mono (by simp)))
  clear ho hb
  go_wp2
  go_ret2
  exact ⟨_, _, _, rfl, HO.out, HB.out⟩
end V
end Go.Proofs.Ytobdgboejbbfiaa

namespace Go.Proofs.Ytobdgboejbbfiaa
namespace V
set_option maxRecDepth 100000
open Go.RowKit
theorem infoP_parts : ∃ i, Try.prog.info? 35 = some i ∧ i.zero = some (.agg #[.int .i64 0, .int .i64 0, .int .i64 0, .int .i64 0]) ∧ i.size = 4 ∧ i.bytes = 32 := by
  obtain ⟨i, hi, hzz⟩ := Option.map_eq_some_iff.1 infoP
  simp only [Prod.mk.injEq] at hzz
  exact ⟨i, hi, hzz⟩
theorem pls_cells {w : World} {b off m : Nat} {k : List M.Pc} (h : Pls w (some ⟨b, off, none⟩) m k) : ∀ j u, (pcells k)[j]? = some u → w.cell? ((⟨b, off, none⟩ : Addr).add j) = some u := fun j u hj => by
  have hlt : j < k.length * 4 := by
    apply Classical.byContradiction
    intro q
    rw [List.getElem?_eq_none (by rw [pcells_len]; omega)] at hj; cases hj
  rw [pcells_get k hlt] at hj
  injection hj with hj
  subst hj
  have hm := h.1
  obtain ⟨b', o', p0, p1, p2, p3, e, -, hp, c0, c1, c2, c3⟩ := h.at (j / 4) (by omega)
  injection e with e
  injection e with e1 e2
  subst e1 e2
  have ad : (⟨b, off, none⟩ : Addr).add j = ⟨b, off + j, none⟩ := by unfold Addr.add; split <;> simp_all
  rw [ad, hp]
  have h4 : j % 4 = 0 ∨ j % 4 = 1 ∨ j % 4 = 2 ∨ j % 4 = 3 := by omega
  rcases h4 with q | q | q | q
  · rw [q, show off + j = off + j / 4 * 4 by omega]; exact c0
  · rw [q, show off + j = off + j / 4 * 4 + 1 by omega]; exact c1
  · rw [q, show off + j = off + j / 4 * 4 + 2 by omega]; exact c2
  · rw [q, show off + j = off + j / 4 * 4 + 3 by omega]; exact c3
theorem pcells_one_cell {k : List M.Pc} : ∀ u ∈ pcells k, u.oneCell' = true := fun u hu => by
  unfold pcells at hu
  obtain ⟨q, -, rfl⟩ := List.mem_map.1 hu
  rfl
/-- What an append of places leaves. -/
def AppP (w : World) (B : Nat) (v : Value) (l : List M.Pc) (n : Nat) (v' : Value) (w' : World) : Prop :=
  ∃ g c, v' = .slice (some ⟨g, 0, none⟩) n c ∧ OwnPl w' B (.slice (some ⟨g, 0, none⟩) n c) l ∧ Below B w w' ∧ (∀ q, q < w.heap.size → v.ownBlock ≠ some q → w'.heap[q]? = w.heap[q]?) ∧ ((Value.slice (some ⟨g, 0, none⟩) n c).ownBlock = v.ownBlock ∨ w.heap.size ≤ g)
theorem appP_of {w w' : World} {B : Nat} {v v' : Value} {l k : List M.Pc} {n m : Nat} (hn : l.length = n) (hm : k.length = m) (hown : OwnPl w B v l) (hv : v ≠ .slice none 0 0) (hB : B ≤ w.heap.size) (h2 : w'.ownsRow B 35 4 v' (l.length + m) (pcells l ++ pcells k)) (h3 : w.grownBy w' v.ownBlock) (h4 : v' = .slice none 0 0 ↔ v = .slice none 0 0 ∧ m = 0) (h5 : v'.ownBlock = v.ownBlock ∨ v'.ownBlock = some w.heap.size) : AppP w B v (l ++ k) (n + m) v' w' := by
  subst hn hm
  have ho : OwnPl w' B v' (l ++ k) := by
    show w'.ownsRow B _ 4 v' (l ++ k).length (pcells (l ++ k))
    rw [pcells_app, List.length_append]
    exact h2
  have hb : Below B w w' := (Below.refl B w).grown h3 hB (fun q hq => (hown.lt hq).1)
  have hfr : ∀ q, q < w.heap.size → v.ownBlock ≠ some q → w'.heap[q]? = w.heap[q]? := fun q hq hne => by
    obtain ⟨g1, g2, g3, g4, g5⟩ := h3
    exact g5 q hq (fun e => hne e.symm)
  have ho' := ho
  obtain ⟨-, h⟩ := ho
  rcases h with ⟨h, -⟩ | ⟨g, cap, cur, h, hr⟩
  · exact absurd (h4.1 h).1 hv
  · rw [List.length_append] at h
    subst h
    refine ⟨g, cap, rfl, by simpa using ho', hb, hfr, ?_⟩
    rcases h5 with e | e
    · exact .inl e
    · simp [Value.ownBlock] at e
      exact .inr (by omega)
theorem appendPl (w : World) {ops : Array Oper} {rest : List Oper} {o : Oper} {a : Act} {Q : Exit → Act → World → Prop} (hgd : o.guard = none) (s x : Operand)
    (ho : o.op = .call { callee := .builtin .append, args := #[s, x], argTypes := #[24, 24] }) (B : Nat) (v : Value) (l k : List M.Pc) (n m b off c : Nat) (hn : l.length = n) (hs : a.eval s = v) (hown : OwnPl w B v l) (hv : v ≠ .slice none 0 0)
    (hx : a.eval x = .slice (some ⟨b, off, none⟩) m c) (hk : Pls w (some ⟨b, off, none⟩) m k) (hlen : n + m ≤ 2000000) (hB : B ≤ w.heap.size)
    (h : ∀ v' w', AppP w B v (l ++ k) (n + m) v' w' → wpList Try.prog ops Q rest (a.put o.dst v') w') :
    wpList Try.prog ops Q (o :: rest) a w := by
  obtain ⟨i0, hi, hz0, hz1, hz2⟩ := infoP_parts
  refine wpList_append_own_at (w := w) hgd s x 24 ho B 35 i0 _ 4 32 Try.underlying24 hi hz0 hz1 hz2 rfl (by decide) v _ _ hs hown ⟨b, off, none⟩ m c (pcells k) hx (by rw [pcells_len, hk.1]) (pls_cells hk) pcells_one_cell (by unfold maxLen; omega) (by omega) hB ?_
  intro v' w' h2 h3 h4 h5
  exact h v' w' (appP_of hn hk.1 hown hv hB h2 h3 h4 h5)
theorem step_appendPl (w : World) {ops : Array Oper} {o : Oper} {a : Act} {K : Act → World → Prop} {Q : Exit → Act → World → Prop} {E : Prop} (hgd : o.guard = none) (s x : Operand)
    (ho : o.op = .call { callee := .builtin .append, args := #[s, x], argTypes := #[24, 24] }) (B : Nat) (v : Value) (l k : List M.Pc) (n m b off c : Nat) (hn : l.length = n) (hs : a.eval s = v) (hown : OwnPl w B v l) (hv : v ≠ .slice none 0 0)
    (hx : a.eval x = .slice (some ⟨b, off, none⟩) m c) (hk : Pls w (some ⟨b, off, none⟩) m k) (hlen : n + m ≤ 2000000) (hB : B ≤ w.heap.size)
    (h : ∀ v' w', AppP w B v (l ++ k) (n + m) v' w' → K (a.put o.dst v') w') :
    if Region.wanted o (yielded ops a.tmps) = true then Oper.wp Try.prog o a w K Q else E := by
  have hw : Region.wanted o (yielded ops a.tmps) = true := by simp [Region.wanted, hgd]
  rw [if_pos hw]
  obtain ⟨i0, hi, hz0, hz1, hz2⟩ := infoP_parts
  obtain ⟨v', w', hr, h2, h3, h4, h5⟩ := run_append_own_at (P := Try.prog) w B 24 o.type 35 i0 _ 4 32 Try.underlying24 hi hz0 hz1 hz2 rfl (by decide) v _ _ hown ⟨b, off, none⟩ m c (pcells k) (by rw [pcells_len, hk.1]) (pls_cells hk) pcells_one_cell (by unfold maxLen; omega) (by omega) hB
  unfold Oper.wp execOp
  simp only [ho, resolve, invoke, builtin, Sem.run_bind, Sem.run_pure, Result.andThen_ok, List.map_toArray, List.map_cons, List.map_nil, hs, hx, hr]
  exact h v' w' (appP_of hn hk.1 hown hv hB h2 h3 h4 h5)
theorem ownPl_lit0 (w : World) (B : Nat) (hB : B ≤ w.heap.size) : OwnPl (w.alloc (.cells #[] 35)) B (.slice (some ⟨w.heap.size, 0, none⟩) 0 0) [] :=
  World.ownsRow_lit w #[] 0 hB (by decide) rfl
set_option maxRecDepth 100000 in
set_option maxHeartbeats 1000000 in
theorem clonePl (b off n cap : Nat) (l : List M.Pc) (w : World) (h : Pls w (some ⟨b, off, none⟩) n l) (hn : n ≤ 1048576) :
    Calls Try.prog 100 #[.slice (some ⟨b, off, none⟩) n cap] w fun e w' => ∃ g c, e = .returned (.slice (some ⟨g, 0, none⟩) n c) ∧ OwnPl w' w.heap.size (.slice (some ⟨g, 0, none⟩) n c) l ∧ Below w.heap.size w w' := by
  have HI := Lib.hid h
  have hnil := fun w : World => Lib.run_eql_slice_nil (P := Try.prog) w 24 35 (some (⟨b, off, none⟩ : Addr)) n cap 0 0 Try.underlying24
  clear h
  go_enter Try.func100, Try.ntmps100
  go_wp2_with (at_builtin; refine appendPl _ rfl (.tmp 5) (.tmp 6) rfl w.heap.size (.slice (some ⟨w.heap.size, 0, none⟩) 0 0) [] l 0 n b off cap rfl rfl (ownPl_lit0 w _ (Nat.le_refl _)) (by simp) rfl (HI.out.below (b_alloc w _)) (by omega) (by simp) ?_)
  rintro v' w' ⟨g, c, rfl, ho, hb, -, -⟩
  have HO := Lib.hid ho
  have HB := Lib.hid ((b_alloc w (.cells #[] 35)).trans hb)
  clear ho hb
  go_wp2
  go_ret
  exact ⟨_, _, rfl, HO.out, HB.out⟩
set_option maxRecDepth 100000 in
set_option maxHeartbeats 2000000 in
theorem sOwnG (x : Int) (b off n cap : Nat) (l : List M.Pc) (w : World) (h : Pls w (some ⟨b, off, none⟩) n l) (hn : n ≤ 1048576) :
    Calls Try.prog 103 #[.agg #[.int .i64 x, .slice (some ⟨b, off, none⟩) n cap]] w fun e w' => ∃ g c, e = .returned (.agg #[.int .i64 x, .slice (some ⟨g, 0, none⟩) n c]) ∧ OwnPl w' w.heap.size (.slice (some ⟨g, 0, none⟩) n c) l ∧ Below w.heap.size w w' := by
  have HI := Lib.hid h
  have HO : Hid (OwnPl (((w.alloc (.cells #[.int .i64 x, .slice (some ⟨b, off, none⟩) n cap] 26)).alloc (.cells #[.int .i64 0, .slice none 0 0] 26)).alloc (.cells #[] 35)).drew w.heap.size (.slice (some ⟨w.heap.size + 1 + 1, 0, none⟩) 0 0) []) := by
    have := ownPl_lit0 ((w.alloc (.cells #[.int .i64 x, .slice (some ⟨b, off, none⟩) n cap] 26)).alloc (.cells #[.int .i64 0, .slice none 0 0] 26)) w.heap.size (by simp; omega)
    simp only [World.size_alloc] at this
    exact this
  have HB3 : Hid (Below w.heap.size w (((w.alloc (.cells #[.int .i64 x, .slice (some ⟨b, off, none⟩) n cap] 26)).alloc (.cells #[.int .i64 0, .slice none 0 0] 26)).alloc (.cells #[] 35)).drew) := (b_al3g w _ _ _).drew
  clear h
  go_enter Try.func103, Try.ntmps103
  go_wp2
  go_region_law (refine step_appendPl _ rfl (.tmp 5) (.tmp 7) rfl w.heap.size (.slice (some ⟨w.heap.size + 1 + 1, 0, none⟩) 0 0) [] l 0 n b off cap rfl rfl HO.out (by simp) rfl (HI.out.below HB3.out) (by omega) (HB3.out.size) ?_; intro v' w2 hA; obtain ⟨g, c, hv, ho, hb, hfr, hat⟩ := hA; subst hv; have e0 := hfr w.heap.size (by first | (simp; done) | (simp; omega)) (by first | (simp [Value.ownBlock]; done) | (simp [Value.ownBlock]; omega)); have e1 := hfr (w.heap.size + 1) (by first | (simp; done) | (simp; omega)) (by first | (simp [Value.ownBlock]; done) | (simp [Value.ownBlock]; omega)); have c0 : w2.cell? ⟨w.heap.size, 0, none⟩ = some (.int .i64 x) := (World.cell?_of_block (a := ⟨w.heap.size, 0, none⟩) e0).trans (by simp [go_sem]); have r0 : w2.cell? ⟨w.heap.size + 1, 0, none⟩ = some (.int .i64 0) := (World.cell?_of_block (a := ⟨w.heap.size + 1, 0, none⟩) e1).trans (by simp [go_sem]); have r1 : w2.cell? ⟨w.heap.size + 1, 1, none⟩ = some (.slice none 0 0) := (World.cell?_of_block (a := ⟨w.heap.size + 1, 1, none⟩) e1).trans (by simp [go_sem]); have f0 : w2.frozen? ⟨w.heap.size + 1, 0, none⟩ = false := (World.frozen?_of_block (a := ⟨w.heap.size + 1, 0, none⟩) e1).trans (by simp [go_sem]); have f1 : w2.frozen? ⟨w.heap.size + 1, 1, none⟩ = false := (World.frozen?_of_block (a := ⟨w.heap.size + 1, 1, none⟩) e1).trans (by simp [go_sem]))
  all_goals
    have hgn : w.heap.size + 1 + 1 ≤ g := by
      rcases hat with e | e
      · simp [Value.ownBlock] at e; omega
      · simp at e; omega
    have HOw : Hid (OwnPl ((w2.setCell ⟨w.heap.size + 1, 0, none⟩ (.int .i64 x)).setCell ⟨w.heap.size + 1, 1, none⟩ (.slice (some ⟨g, 0, none⟩) n c)) w.heap.size (.slice (some ⟨g, 0, none⟩) n c) l) := by
      have ho' : OwnPl w2 w.heap.size (.slice (some ⟨g, 0, none⟩) n c) l := by simpa using ho
      refine ho'.keepB fun k hk => ?_
      simp [Value.ownBlock] at hk
      subst hk
      rw [Below.heap_setCell _ _ _ _ (by show g ≠ w.heap.size + 1; omega), Below.heap_setCell _ _ _ _ (by show g ≠ w.heap.size + 1; omega)]
    have HBa := Lib.hid (HB3.out.trans hb)
    have hsz2 := HBa.out.size
    have z1 : w.heap.size + 1 < w2.heap.size := cell_lt r0
    go_wp2
    exact bodyPost_ret (v := .agg #[.int .i64 x, .slice (some ⟨g, 0, none⟩) n c]) (by simp [results, Try.results103, go_sem, z1, r0, r1]) rfl ⟨g, c, rfl, HOw.out, (HBa.out.setCell (by show _ ≤ w.heap.size + 1; omega) _).setCell (by show _ ≤ w.heap.size + 1; omega) _⟩
end V
end Go.Proofs.Ytobdgboejbbfiaa
