/- Texts laid together: Gre, App, SBot, Vec, IsMat, SMul, IAdd, IMul, Trans. -/
import Derived.Test.YtphobmddkphofaaQa2
import Derived.Test.YtphobmddkphofaaRows
import Derived.Test.YtphobmddkphofaaQa1
import Derived.WalkKit
import Derived.ProofKit
import Derived.WalkSmall
import Derived.Deep.QuietTactic
import Derived.BigQuiet
import Derived.BigRegion
import Derived.Deep.Draws
import Derived.Lib.Hide
import Derived.OpenShut
import Derived.Deep.OwnRows
import Derived.Maps.AppendAt
import Derived.StillTailTactics
set_option linter.unusedSimpArgs false
set_option linter.unusedVariables false
set_option linter.unusedSectionVars false
namespace Go.Proofs.Ytphobmddkphofaa
namespace V
set_option maxRecDepth 100000
open Go.RowKit
theorem ev_wrap {x : Int} (h : M.inB x 1 10 = true) : wrap64 (x - 1) = x - 1 := by
  unfold M.inB at h
  simp at h
  exact IntWalk.wrap64_in _ ⟨by omega, by omega⟩
theorem isGr_sp {x : Int} {l : List M.Pc} (h : ∀ i, i < l.length → M.plW (wrap64 (x - 1)) (l.getD i M.pz) = true) : M.isGr x l = (M.inB x 1 10 && decide (l.length ≤ 30)) := by
  unfold M.isGr
  cases he : M.inB x 1 10 with
  | false => rfl
  | true =>
    rw [← ev_wrap he, M.all_of h]
    simp
theorem isGr_no {x : Int} {l : List M.Pc} {i : Nat} (hi : i < l.length) (h : M.plW (wrap64 (x - 1)) (l.getD i M.pz) = false) : M.isGr x l = false := by
  unfold M.isGr
  cases he : M.inB x 1 10 with
  | false => rfl
  | true =>
    rw [← ev_wrap he, M.all_no hi h]
    simp
/-- The box of a graph. -/
def GBox (w : World) (g : Nat) (x : Int) (a : Option Addr) (n cap : Nat) : Prop := w.cell? ⟨g, 0, none⟩ = some (.int .i64 x) ∧ w.cell? ⟨g, 1, none⟩ = some (.slice a n cap)
theorem GBox.below {w w' : World} {g : Nat} {x : Int} {a : Option Addr} {n cap : Nat} (h : GBox w g x a n cap) (hb : Below w.heap.size w w') : GBox w' g x a n cap :=
  ⟨(hb.cell (cell_lt h.1)).trans h.1, (hb.cell (cell_lt h.2)).trans h.2⟩
theorem gBox_new (w : World) (x : Int) (a : Option Addr) (n cap : Nat) (t : TypeId) : GBox (w.alloc (.cells #[.int .i64 x, .slice a n cap] t)) w.heap.size x a n cap := ⟨by simp [go_sem], by simp [go_sem]⟩
set_option maxRecDepth 100000 in
set_option maxHeartbeats 2000000 in
theorem sIsEventGraph (x : Int) (a : Option Addr) (n cap : Nat) (l : List M.Pc) (w : World) (h : Pls w a n l) :
    Calls Try.prog 98 #[.agg #[.int .i64 x, .slice a n cap]] w fun e w' => e = .returned (.bool (M.isGr x l)) ∧ Below w.heap.size w w' := by
  have HI := Lib.hid h
  have HL : Hid (l.length = n) := h.1
  have hm := h.2.1
  unfold maxLen at hm
  have HP : Hid (∀ p0 p1 p2 p3 w, Calls Try.prog 117 #[.agg #[.int .i64 p0, .int .i64 p1, .int .i64 p2, .int .i64 p3], .int .i64 x] w fun e w' => e = .returned (.bool (M.plW (wrap64 (x - 1)) (p0, p1, p2, p3))) ∧ Below w.heap.size w w') := fun p0 p1 p2 p3 w => sPlace p0 p1 p2 p3 x w
  have HNo : Hid (∀ i, i < n → M.plW (wrap64 (x - 1)) (l.getD i M.pz) = false → M.isGr x l = false) := fun i hi q => isGr_no (by rw [HL.out]; exact hi) q
  have HSp : Hid ((∀ i, i < n → M.plW (wrap64 (x - 1)) (l.getD i M.pz) = true) → M.isGr x l = (M.inB x 1 10 && decide (n ≤ 30))) := fun q => by rw [isGr_sp (fun i hi => q i (by rw [← HL.out]; exact hi)), HL.out]
  have HG0 : Hid (GBox (w.alloc (.cells #[.int .i64 x, .slice a n cap] 26)) w.heap.size x a n cap) := gBox_new _ _ _ _ _ _
  have HB0 : Hid (Below w.heap.size w (w.alloc (.cells #[.int .i64 x, .slice a n cap] 26))) := b_alloc w _
  obtain ⟨r, hr⟩ : ∃ r, r = M.isGr x l := ⟨_, rfl⟩
  rw [← hr] at HNo HSp ⊢
  clear h hr
  go_enter Try.func98, Try.ntmps98
  go_wp2
  go_loopw [3] (fun kv wr => ∃ k : Nat, k ≤ n ∧ kv = .int .i64 k ∧ Hid (∀ i, i < k → M.plW (wrap64 (x - 1)) (l.getD i M.pz) = true) ∧ Hid (GBox wr w.heap.size x a n cap) ∧ Hid (Below w.heap.size w wr)) (fun kv _ => n - (intOf kv).toNat)
  case atStart => exact ⟨0, Nat.zero_le _, rfl, fun i hi => absurd hi (Nat.not_lt_zero i), HG0, HB0⟩
  case round =>
    obtain ⟨k, hk, rfl, HA, HG, HB⟩ := hrel
    obtain ⟨wo, rfl⟩ : ∃ x, x = wr := ⟨_, rfl⟩
    clear HG0 HB0
    obtain ⟨g0, g1⟩ := HG.out
    by_cases hkl : k < n
    · have hki : (k : Int) < (n : Int) := by omega
      obtain ⟨b, off, p0, p1, p2, p3, rfl, -, hp, c0, c1, c2, c3⟩ := (HI.out.below HB.out).at k hkl
      obtain ⟨v, hv⟩ : ∃ v, v = M.plW (wrap64 (x - 1)) (p0, p1, p2, p3) := ⟨_, rfl⟩
      have HC : Hid (∀ w, Calls Try.prog 117 #[.agg #[.int .i64 p0, .int .i64 p1, .int .i64 p2, .int .i64 p3], .int .i64 x] w fun e w' => e = .returned (.bool v) ∧ Below w.heap.size w w') := fun w => by rw [hv]; exact HP.out p0 p1 p2 p3 w
      have HV : Hid (M.plW (wrap64 (x - 1)) (l.getD k M.pz) = v) := by show _ = _; rw [hp, hv]
      have HS := Lib.hid HB.out.size
      clear hp hv
      cases v with
      | true =>
        go_wp2
        go_region_with (first | (go_at_call 117; refine (HC.out _).mono ?_; rintro e w2 ⟨rfl, hb2⟩))
        all_goals
          have HB2 : Hid (Below wo.heap.size wo w2) := (b_draws wo 1).trans (hb2.mono (by simp))
          have HG2 := Lib.hid (HG.out.below HB2.out)
          go_wp2
          go_roundw
          case rel => exact ⟨k + 1, by omega, by go_num, fun i hi => by rcases Nat.lt_or_ge i k with q | q; exact HA.out i q; rw [show i = k by omega]; exact HV.out, HG2, HB.out.trans (HB2.out.mono HS.out)⟩
          case measure => simp [intOf]; omega
      | false =>
        have HR := HNo.out k hkl HV.out
        subst HR
        go_wp2
        go_region_with (first | (go_at_call 117; refine (HC.out _).mono ?_; rintro e w2 ⟨rfl, hb2⟩))
        all_goals
          have HB2 : Hid (Below w.heap.size w w2) := (HB.out.trans ((b_draws wo 1).mono HS.out)).trans (hb2.mono (by simpa using HS.out))
          go_wp2
          go_ret
          exact ⟨rfl, HB2.out⟩
    · obtain rfl : k = n := by omega
      have HR := Lib.hid (HSp.out HA.out)
      cases h0 : (decide (1 ≤ x) && decide (x ≤ 10)) with
      | false =>
        have HE : r = false := by rw [HR.out]; unfold M.inB; rw [h0]; rfl
        subst HE
        go_wp2_with (go_at_call 89; refine (sIn _ _ _ _).mono ?_; rintro e w' ⟨rfl, rfl⟩)
        go_ret
        exact ⟨rfl, HB.out⟩
      | true =>
        have HE : r = decide ((k : Int) ≤ 30) := by
          rw [HR.out]
          unfold M.inB; rw [h0, Bool.true_and]
          by_cases q : k ≤ 30
          · rw [decide_eq_true q, decide_eq_true (by omega)]
          · rw [decide_eq_false q, decide_eq_false (by omega)]
        subst HE
        go_wp2_with (go_at_call 89; refine (sIn _ _ _ _).mono ?_; rintro e w' ⟨rfl, rfl⟩)
        go_ret
        exact ⟨rfl, HB.out⟩
set_option maxRecDepth 100000 in
set_option maxHeartbeats 2000000 in
theorem allows (x : Int) (a : Option Addr) (n cap : Nat) (p0 p1 p2 p3 : Int) (w : World) :
    Calls Try.prog 119 #[.agg #[.int .i64 x, .slice a n cap], .agg #[.int .i64 p0, .int .i64 p1, .int .i64 p2, .int .i64 p3]] w fun e w' => e = .returned (.bool (M.plW (wrap64 (x - 1)) (p0, p1, p2, p3))) ∧ Below w.heap.size w w' := by
  obtain ⟨m, hm⟩ : ∃ m, m = wrap64 (x - 1) := ⟨_, rfl⟩
  have HH : Hid (∀ y w, Calls Try.prog 106 #[.agg #[.int .i64 x, .slice a n cap], .int .i64 y] w fun e w' => e = .returned (.bool (M.inB y 0 m)) ∧ Below w.heap.size w w') := fun y w => by rw [hm]; exact hasEvent x a n cap y w
  rw [← hm]
  show Calls _ _ _ _ fun e w' => e = .returned (.bool (M.inB p0 0 m && (M.inB p1 0 m && (M.inB p2 0 1000 && M.inB p3 0 5)))) ∧ Below w.heap.size w w'
  clear hm
  have HW : Hid (Below w.heap.size w ((w.alloc (.cells #[.int .i64 x, .slice a n cap] 26)).alloc (.cells #[.int .i64 p0, .int .i64 p1, .int .i64 p2, .int .i64 p3] 39))) := b_alloc2 w _ _
  obtain ⟨W, hW⟩ : ∃ W, W = (w.alloc (.cells #[.int .i64 x, .slice a n cap] 26)).alloc (.cells #[.int .i64 p0, .int .i64 p1, .int .i64 p2, .int .i64 p3] 39) := ⟨_, rfl⟩
  have c0 : W.cell? ⟨w.heap.size, 0, none⟩ = some (.int .i64 x) := by rw [hW]; simp [go_sem]
  have c1 : W.cell? ⟨w.heap.size, 1, none⟩ = some (.slice a n cap) := by rw [hW]; simp [go_sem]
  have d0 : W.cell? ⟨w.heap.size + 1, 0, none⟩ = some (.int .i64 p0) := by rw [hW]; simp [go_sem]
  have d1 : W.cell? ⟨w.heap.size + 1, 1, none⟩ = some (.int .i64 p1) := by rw [hW]; simp [go_sem]
  have d2 : W.cell? ⟨w.heap.size + 1, 2, none⟩ = some (.int .i64 p2) := by rw [hW]; simp [go_sem]
  have d3 : W.cell? ⟨w.heap.size + 1, 3, none⟩ = some (.int .i64 p3) := by rw [hW]; simp [go_sem]
  rw [← hW] at HW
  have HWe := Lib.hid hW.symm
  clear hW
  have HK : Hid (∀ W', Below W.heap.size W W' → W'.cell? ⟨w.heap.size, 0, none⟩ = some (.int .i64 x) ∧ W'.cell? ⟨w.heap.size, 1, none⟩ = some (.slice a n cap) ∧ W'.cell? ⟨w.heap.size + 1, 1, none⟩ = some (.int .i64 p1) ∧ W'.cell? ⟨w.heap.size + 1, 2, none⟩ = some (.int .i64 p2) ∧ W'.cell? ⟨w.heap.size + 1, 3, none⟩ = some (.int .i64 p3)) := fun W' hb =>
    ⟨(hb.cell (cell_lt c0)).trans c0, (hb.cell (cell_lt c1)).trans c1, (hb.cell (cell_lt d1)).trans d1, (hb.cell (cell_lt d2)).trans d2, (hb.cell (cell_lt d3)).trans d3⟩
  go_enter Try.func119, Try.ntmps119
  go_wp2_with fail
  rw [HWe.out]
  refine (HH.out p0 W).mono ?_
  rintro e w1 ⟨rfl, hb1⟩
  have HB1 := Lib.hid hb1
  obtain ⟨k0, k1, k2, k3, k4⟩ := HK.out w1 hb1
  clear hb1 c0 c1 d0 d1 d2 d3
  cases h0 : M.inB p0 0 m with
  | false =>
    go_wp2
    go_ret
    exact ⟨by rw [h0]; rfl, HW.out.trans (HB1.out.mono HW.out.size)⟩
  | true =>
    go_wp2_with fail
    refine (HH.out p1 w1).mono ?_
    rintro e w2 ⟨rfl, hb2⟩
    have HB2 := Lib.hid (HB1.out.trans (hb2.mono HB1.out.size))
    clear k0 k1 k2 k3 k4
    obtain ⟨k0, k1, k2, k3, k4⟩ := HK.out w2 HB2.out
    clear hb2
    cases h1 : M.inB p1 0 m with
    | false =>
      go_wp2
      go_ret
      exact ⟨by rw [h0, h1]; rfl, HW.out.trans (HB2.out.mono HW.out.size)⟩
    | true =>
      go_wp2_with fail
      refine (isUpTo p2 1000 w2).mono ?_
      rintro e w' ⟨rfl, rfl⟩
      cases h2 : M.inB p2 0 1000 with
      | false =>
        go_wp2
        go_ret
        exact ⟨by rw [h0, h1, h2]; rfl, HW.out.trans (HB2.out.mono HW.out.size)⟩
      | true =>
        go_wp2_with fail
        refine (isUpTo p3 5 w2).mono ?_
        rintro e w' ⟨rfl, rfl⟩
        go_wp2
        go_ret
        exact ⟨by rw [h0, h1, h2]; rfl, HW.out.trans (HB2.out.mono HW.out.size)⟩
set_option maxRecDepth 100000 in
set_option maxHeartbeats 1000000 in
theorem notAllowed (G : Nat) (x : Int) (a : Option Addr) (n cap : Nat) (p0 p1 p2 p3 : Int) (w : World) (hG : GBox w G x a n cap) :
    Calls Try.prog 131 #[.agg #[.int .i64 p0, .int .i64 p1, .int .i64 p2, .int .i64 p3], .pointer (some ⟨G, 0, none⟩)] w fun e w' => e = .returned (.bool (!M.plW (wrap64 (x - 1)) (p0, p1, p2, p3))) ∧ Below w.heap.size w w' := by
  obtain ⟨v, hv⟩ : ∃ v, v = M.plW (wrap64 (x - 1)) (p0, p1, p2, p3) := ⟨_, rfl⟩
  have HC : Hid (∀ w, Calls Try.prog 119 #[.agg #[.int .i64 x, .slice a n cap], .agg #[.int .i64 p0, .int .i64 p1, .int .i64 p2, .int .i64 p3]] w fun e w' => e = .returned (.bool v) ∧ Below w.heap.size w w') := fun w => by rw [hv]; exact allows x a n cap p0 p1 p2 p3 w
  rw [← hv]
  obtain ⟨g0, g1⟩ := hG
  have hlt : G < w.heap.size := cell_lt g0
  have hne : G ≠ w.heap.size := by omega
  clear hv
  go_enter Try.func131, Try.ntmps131
  go_wp2_with fail
  refine (HC.out _).mono ?_
  rintro e w2 ⟨rfl, hb2⟩
  have HB := Lib.hid ((b_alloc w (.cells #[.int .i64 p0, .int .i64 p1, .int .i64 p2, .int .i64 p3] 39)).trans (hb2.mono (by simp)))
  clear hb2
  go_wp2
  go_ret
  exact ⟨rfl, HB.out⟩
set_option maxRecDepth 100000 in
set_option maxHeartbeats 1000000 in
theorem indexBad (G : Nat) (x : Int) (ga : Option Addr) (gn gc : Nat) (a : Option Addr) (n cap : Nat) (l : List M.Pc) (w : World) (h : Pls w a n l) (hG : GBox w G x ga gn gc) :
    Calls Try.prog 158 #[.slice a n cap, .func (.func 131) #[] #[.pointer (some ⟨G, 0, none⟩)]] w fun e w' => Below w.heap.size w w' ∧
      ((e = .returned (.int .i64 (-1)) ∧ l.all (M.plW (wrap64 (x - 1))) = true) ∨ ∃ j : Nat, e = .returned (.int .i64 j) ∧ l.all (M.plW (wrap64 (x - 1))) = false) := by
  have HI := Lib.hid h
  have HL : Hid (l.length = n) := h.1
  have HG := Lib.hid hG
  have hm := h.2.1
  unfold maxLen at hm
  clear h hG
  go_enter Try.func158, Try.ntmps158
  go_wp2
  go_loopw [5, 8] (fun _ iv wr => ∃ k : Nat, k ≤ n ∧ iv = .int .i64 k ∧ Hid (∀ j, j < k → M.plW (wrap64 (x - 1)) (l.getD j M.pz) = true) ∧ Hid (Below w.heap.size w wr)) (fun _ iv _ => n - (intOf iv).toNat)
  case atStart => exact ⟨0, Nat.zero_le _, rfl, fun j hj => absurd hj (Nat.not_lt_zero j), Below.refl _ _⟩
  case round =>
    obtain ⟨k, hk, rfl, HA, HW⟩ := hrel
    by_cases hkl : k < n
    · have hki : (k : Int) < (n : Int) := by omega
      obtain ⟨b, off, p0, p1, p2, p3, rfl, -, hp, c0, c1, c2, c3⟩ := (HI.out.below HW.out).at k hkl
      have hcall := notAllowed G x ga gn gc p0 p1 p2 p3 wr (HG.out.below HW.out)
      obtain ⟨t, ht⟩ : ∃ t, t = M.plW (wrap64 (x - 1)) (p0, p1, p2, p3) := ⟨_, rfl⟩
      have HT : Hid (M.plW (wrap64 (x - 1)) (l.getD k M.pz) = t) := by show _ = _; rw [hp, ht]
      rw [← ht] at hcall
      have HS := Lib.hid HW.out.size
      clear ht hp
      cases t with
      | true =>
        have HCa := Lib.hid hcall
        clear hcall
        go_wp2_with (go_at_call 131; refine (HCa.out).mono ?_; rintro e w' ⟨rfl, hb'⟩)
        go_roundw
        case rel => exact ⟨k + 1, by omega, by go_num, fun i hi => by rcases Nat.lt_or_ge i k with q | q; exact HA.out i q; rw [show i = k by omega]; exact HT.out, HW.out.trans (hb'.mono HS.out)⟩
        case measure => simp [intOf]; omega
      | false =>
        have HCa := Lib.hid hcall
        clear hcall
        go_wp2_with (go_at_call 131; refine (HCa.out).mono ?_; rintro e w' ⟨rfl, hb'⟩)
        go_ret
        exact ⟨HW.out.trans (hb'.mono HS.out), .inr ⟨k, rfl, M.all_no (by rw [HL.out]; exact hkl) HT.out⟩⟩
    · obtain rfl : k = n := by omega
      have HE : Hid (l.all (M.plW (wrap64 (x - 1))) = true) := M.all_of (fun i hi => HA.out i (by rw [← HL.out]; exact hi))
      go_wp2
      go_ret
      exact ⟨HW.out, .inl ⟨rfl, HE.out⟩⟩
set_option maxRecDepth 100000 in
set_option maxHeartbeats 1000000 in
theorem containsBad (G : Nat) (x : Int) (ga : Option Addr) (gn gc : Nat) (a : Option Addr) (n cap : Nat) (l : List M.Pc) (w : World) (v : Bool) (h : Pls w a n l) (hG : GBox w G x ga gn gc) (hv : l.all (M.plW (wrap64 (x - 1))) = v) :
    Calls Try.prog 130 #[.slice a n cap, .func (.func 131) #[] #[.pointer (some ⟨G, 0, none⟩)]] w fun e w' => e = .returned (.bool (!v)) ∧ Below w.heap.size w w' := by
  have HC := Lib.hid (indexBad G x ga gn gc a n cap l w h hG)
  have HV := Lib.hid hv
  clear h hG hv
  go_enter Try.func130, Try.ntmps130
  go_wp2_with fail
  refine (HC.out).mono ?_
  rintro e w1 ⟨hb, ⟨rfl, hall⟩ | ⟨j, rfl, hall⟩⟩
  · rw [HV.out] at hall
    subst hall
    have HB := Lib.hid hb
    clear hb
    go_wp2
    go_ret
    exact ⟨rfl, HB.out⟩
  · rw [HV.out] at hall
    subst hall
    have hj0 : (0 : Int) ≤ (j : Int) := by omega
    have HB := Lib.hid hb
    clear hb
    go_wp2
    go_ret
    exact ⟨rfl, HB.out⟩
set_option maxRecDepth 100000 in
set_option maxHeartbeats 1000000 in
theorem isEventGraph (x : Int) (a : Option Addr) (n cap : Nat) (l : List M.Pc) (w : World) (h : Pls w a n l) :
    Calls Try.prog 82 #[.agg #[.int .i64 x, .slice a n cap]] w fun e w' => e = .returned (.bool (M.isGr x l)) ∧ Below w.heap.size w w' := by
  have hm := h.2.1
  unfold maxLen at hm
  obtain ⟨r, hr⟩ : ∃ r, r = M.isGr x l := ⟨_, rfl⟩
  have HR := Lib.hid hr
  rw [← hr]
  have HL : Hid (l.length = n) := h.1
  have HI := Lib.hid h
  clear hr h
  by_cases h1 : x < 1
  · have e : r = false := by rw [HR.out]; unfold M.isGr M.inB; rw [decide_eq_false (show ¬ 1 ≤ x by omega)]; rfl
    subst e
    go_enter Try.func82, Try.ntmps82
    go_wp2
    go_ret
    exact ⟨rfl, b_alloc _ _⟩
  · by_cases h2 : 10 < x
    · have e : r = false := by rw [HR.out]; unfold M.isGr M.inB; rw [decide_eq_false (show ¬ x ≤ 10 by omega), Bool.and_false]; rfl
      subst e
      go_enter Try.func82, Try.ntmps82
      go_wp2
      go_ret
      exact ⟨rfl, b_alloc _ _⟩
    · have hin : M.inB x 1 10 = true := by unfold M.inB; rw [decide_eq_true (show 1 ≤ x by omega), decide_eq_true (show x ≤ 10 by omega)]; rfl
      by_cases h3 : 30 < n
      · have e : r = false := by rw [HR.out]; unfold M.isGr; rw [decide_eq_false (show ¬ l.length ≤ 30 by rw [HL.out]; omega), Bool.false_and, Bool.and_false]
        subst e
        clear hin
        go_enter Try.func82, Try.ntmps82
        go_wp2
        go_ret
        exact ⟨rfl, b_alloc _ _⟩
      · have e : l.all (M.plW (wrap64 (x - 1))) = r := by
          rw [HR.out]; unfold M.isGr; rw [hin, decide_eq_true (show l.length ≤ 30 by rw [HL.out]; omega), Bool.true_and, Bool.true_and, ev_wrap hin]
        have HT := Lib.hid (containsBad w.heap.size x a n cap a n cap l (w.alloc (.cells #[.int .i64 x, .slice a n cap] 26)) r (HI.out.below (b_alloc w _)) (gBox_new _ _ _ _ _ _) e)
        clear hin e
        go_enter Try.func82, Try.ntmps82
        go_wp2_with fail
        refine (HT.out).mono ?_
        rintro e w2 ⟨rfl, hb2⟩
        have HB := Lib.hid ((b_alloc w (.cells #[.int .i64 x, .slice a n cap] 26)).trans (hb2.mono (by simp)))
        clear hb2
        go_wp2
        go_ret
        exact ⟨by simp, HB.out⟩
end V
end Go.Proofs.Ytphobmddkphofaa

namespace Go.Proofs.Ytphobmddkphofaa.V
open Go.RowKit

theorem append1 (w : World) {ops : Array Oper} {rest : List Oper} {o : Oper} {a : Act} {Q : Exit → Act → World → Prop} (hgd : o.guard = none) (s x : Operand)
    (ho : o.op = .call { callee := .builtin .append, args := #[s, x], argTypes := #[29, 29] }) (B : Nat) (v : Value) (l : List Int) (y : Int) (n : Nat) (hn : l.length = n) (hs : a.eval s = v) (hown : Own w B v l)
    (hx : a.eval x = .slice (some ⟨w.heap.size, 0, none⟩) 1 1) (hlen : l.length ≤ 2000000) (hB : B ≤ w.heap.size)
    (h : ∀ b' c' w', Own w' B (.slice b' (n + 1) c') (l ++ [y]) → Below B w w' → (∀ k, k < w.heap.size → v.ownBlock ≠ some k → w'.heap[k]? = w.heap[k]?) → wpList Try.prog ops Q rest (a.put o.dst (.slice b' (n + 1) c')) w') :
    wpList Try.prog ops Q (o :: rest) a (w.alloc (.cells #[.int .i64 y] 2)) := by
  subst hn
  obtain ⟨i0, hi, hz0, hz1, hz2⟩ := info_parts info64
  have hown2 : (w.alloc (.cells #[.int .i64 y] 2)).ownsRow B 2 1 v l.length (l.map (Value.int .i64)) := World.ownsRow.alloc hown _
  refine wpList_append_own_at (w := w.alloc (.cells #[.int .i64 y] 2)) hgd s x 29 ho B 2 i0 (.int .i64 0) 1 8 Try.underlying29 hi hz0 hz1 hz2 rfl (by decide) v _ _ hs hown2 ⟨w.heap.size, 0, none⟩ 1 1 [.int .i64 y] hx rfl (cell_one_new _ _ _) ?c2 ?c3 ?c4 ?c5 ?_
  case c2 => intro u hu; simp at hu; subst hu; rfl
  case c3 => unfold maxLen; omega
  case c4 => omega
  case c5 => simp; omega
  · intro v' w' hown' hgrow hz hvb
    have ho' : Own w' B v' (l ++ [y]) := by
      show w'.ownsRow B _ 1 v' (l ++ [y]).length ((l ++ [y]).map (Value.int .i64))
      simpa using hown'
    obtain ⟨b', c', hv', _⟩ := own_form ho'
    rw [show (l ++ [y]).length = l.length + 1 by simp] at hv'
    subst hv'
    refine h b' c' w' ho' (((Below.refl B w).alloc hB _).grown hgrow (by simp; omega) (fun k hk => (own_lt hown hk).1)) (fun k hk hne => ?_)
    obtain ⟨g1, g2, g3, g4, g5⟩ := hgrow
    rw [g5 k (by simp; omega) (fun e => hne e.symm), Below.heap_alloc _ _ _ hk]

theorem appendRow (w0 w : World) {ops : Array Oper} {rest : List Oper} {o : Oper} {a : Act} {Q : Exit → Act → World → Prop} (hgd : o.guard = none) (s x : Operand)
    (ho : o.op = .call { callee := .builtin .append, args := #[s, x], argTypes := #[42, 42] }) (B : Nat) (v rv : Value) (R : List (List Int)) (l : List Int) (n : Nat) (hn : R.length = n) (hs : a.eval s = v) (hown : OwnM w0 B v R) (hb : Below w0.heap.size w0 w) (hro : Own w w0.heap.size rv l)
    (hx : a.eval x = .slice (some ⟨w.heap.size, 0, none⟩) 1 1) (hlen : R.length ≤ 2000000) (hB : B ≤ w0.heap.size)
    (h : ∀ b' c' w', OwnM w' B (.slice b' (n + 1) c') (R ++ [l]) → Below B w w' → (∀ k, k < w.heap.size → v.ownBlock ≠ some k → w'.heap[k]? = w.heap[k]?) → wpList Try.prog ops Q rest (a.put o.dst (.slice b' (n + 1) c')) w') :
    wpList Try.prog ops Q (o :: rest) a (w.alloc (.cells #[rv] 29)) := by
  subst hn
  obtain ⟨i0, hi, hz0, hz1, hz2⟩ := info_parts infoS64
  have hsz := hb.size
  obtain ⟨V, h1, h2, h3⟩ := hown
  have hwV : w.ownsRow B 29 1 v R.length V := ownsRow_keep h2 (fun k hv => hb.block k (own_lt h2 hv).2)
  have hown2 : (w.alloc (.cells #[rv] 29)).ownsRow B 29 1 v R.length V := World.ownsRow.alloc hwV _
  refine wpList_append_own_at (w := w.alloc (.cells #[rv] 29)) hgd s x 42 ho B 29 i0 (.slice none 0 0) 1 24 Try.underlying42 hi hz0 hz1 hz2 rfl (by decide) v _ _ hs hown2 ⟨w.heap.size, 0, none⟩ 1 1 [rv] hx rfl (cell_one_new _ _ _) ?c2 ?c3 ?c4 ?c5 ?_
  case c2 =>
    intro u hu; simp at hu; subst hu
    obtain ⟨b', c', hv', _⟩ := own_form hro
    rw [hv']; rfl
  case c3 => unfold maxLen; omega
  case c4 => omega
  case c5 => simp; omega
  · intro v' w' hownV' hgrow hz hvb
    obtain ⟨g1, g2, g3, g4, g5⟩ := hgrow
    have hg : ∀ k, k < w.heap.size → v.ownBlock ≠ some k → w'.heap[k]? = w.heap[k]? := fun k hk hne => by
      rw [g5 k (by simp; omega) (fun e => hne e.symm), Below.heap_alloc _ _ _ hk]
    have hM : OwnM w' B v' (R ++ [l]) := by
      exact OwnV.snoc (q := (w.alloc (.cells #[rv] 29)).heap.size) ⟨h1, h2, h3⟩ hb hB hro hownV' hg hvb (by simp)
    obtain ⟨b', c', hv', _⟩ := hM.form
    rw [show (R ++ [l]).length = R.length + 1 by simp] at hv'
    subst hv'
    exact h b' c' w' hM (((Below.refl B w).alloc (by omega) _).grown ⟨g1, g2, g3, g4, g5⟩ (by simp; omega) (fun k hk => (own_lt h2 hk).1)) hg
end Go.Proofs.Ytphobmddkphofaa.V

namespace Go.Proofs.Ytphobmddkphofaa.V
open Go.RowKit

/-- A new matrix r with n rows. -/
def MPost (n : Nat) (r : List (List Int)) (w : World) (e : Ending) (w' : World) : Prop :=
  ∃ a cap, e = .returned (.slice a n cap) ∧ OwnM w' w.heap.size (.slice a n cap) r ∧ Below w.heap.size w w'
/-- A new matrix and a code. -/
def MRes (r : List (List Int) × Int) (w : World) (e : Ending) (w' : World) : Prop :=
  ∃ a n cap, e = .returned (.tuple #[.slice a n cap, .int .i64 r.2]) ∧ OwnM w' w.heap.size (.slice a n cap) r.1 ∧ Below w.heap.size w w'

theorem MRes.nil {r : List (List Int) × Int} {c : Int} {w w' : World} (hr : r = ([], c)) (hb : Below w.heap.size w w') : MRes r w (.returned (.tuple #[.slice none 0 0, .int .i64 c])) w' := by
  subst hr
  exact ⟨none, 0, 0, rfl, ownM_nil _ _, hb⟩

set_option maxRecDepth 100000 in
set_option maxHeartbeats 1000000 in
theorem sBottom (m n : Nat) (w : World) (hm : m ≤ 100) (hn : n ≤ 100) :
    Calls Try.prog 127 #[.int .i64 m, .int .i64 n] w (MPost m (M.botM m n) w) := by
  have hO0 : Hid (OwnM (w.alloc (.cells #[] 29)) w.heap.size (.slice (some ⟨w.heap.size, 0, none⟩) 0 0) []) := ownM_lit0 w _ (Nat.le_refl _)
  go_enter Try.func127, Try.ntmps127
  go_wp2
  go_loopw [5, 6] (fun out i wr => ∃ k : Nat, k ≤ m ∧ i = .int .i64 k ∧ ∃ b c, out = .slice b k c ∧ OwnM wr w.heap.size (.slice b k c) (M.botM k n) ∧ Below w.heap.size w wr) (fun _ i _ => m - (intOf i).toNat)
  case atStart => exact ⟨0, Nat.zero_le _, rfl, _, _, rfl, hO0.out, b_alloc _ _⟩
  case round =>
    obtain ⟨k, hk, rfl, b, c, rfl, hO, hb⟩ := hrel
    obtain ⟨wo, rfl⟩ : ∃ x, x = wr := ⟨_, rfl⟩
    have HO := Lib.hid hO
    have HB := Lib.hid hb
    clear hO hb hO0
    by_cases hlt : k < m
    · have hki : (k : Int) < (m : Int) := by omega
      have hr0 : Hid (Own (wo.alloc (.cells #[] 2)) wo.heap.size (.slice (some ⟨wo.heap.size, 0, none⟩) 0 0) []) := own_lit0 wo _ (Nat.le_refl _)
      go_wp2
      go_loopw [7, 8] (fun row j wi => ∃ t : Nat, t ≤ n ∧ j = .int .i64 t ∧ ∃ b c, row = .slice b t c ∧ Own wi wo.heap.size (.slice b t c) ((List.range t).map fun _ => -1000000000000000) ∧ Below wo.heap.size wo wi) (fun _ j _ => n - (intOf j).toNat)
      case atStart => exact ⟨0, Nat.zero_le _, rfl, _, _, rfl, hr0.out, b_alloc _ _⟩
      case round =>
        obtain ⟨t, ht, rfl, b1, c1, rfl, hO1, hb1⟩ := hrel
        have HO1 := Lib.hid hO1
        have HB1 := Lib.hid hb1
        clear hO1 hb1 hr0
        by_cases htn : t < n
        · have hti : (t : Int) < (n : Int) := by omega
          have hsz := HB1.out.size
          go_wp2_with (at_builtin; refine append1 _ rfl (.tmp 21) (.tmp 22) rfl wo.heap.size _ _ _ t HO1.out.len.symm rfl HO1.out rfl (by simp; omega) (by omega) ?_)
          intro b2 c2 w2 hO2 hb2 _
          have HO2 := Lib.hid hO2
          have HB2 := Lib.hid (HB1.out.trans hb2)
          clear hO2 hb2
          go_wp2
          go_roundw
          case rel => exact ⟨t + 1, by omega, by go_num, _, _, rfl, by rw [M.range_snoc]; exact HO2.out, HB2.out⟩
          case measure => simp [intOf]; omega
        · obtain rfl : t = n := by omega
          have hs1 := HB.out.size
          go_wp2_with (at_builtin; refine appendRow wo _ rfl (.tmp 24) (.tmp 26) rfl w.heap.size _ _ _ _ k HO.out.len.symm rfl HO.out HB1.out HO1.out rfl (by simp [M.botM]; omega) hs1 ?_)
          intro b2 c2 w2 hO2 hb2 _
          have HO2 : Hid (OwnM w2 w.heap.size (.slice b2 (k + 1) c2) (M.botM (k + 1) t)) := by
            have := hO2
            simp only [M.botM, M.mk_length] at this
            rw [← M.mk_snoc] at this
            exact this
          clear hO2
          have hO2 := True.intro
          have HB2 := Lib.hid (HB.out.trans ((HB1.out.mono hs1).trans hb2))
          clear hO2 hb2
          go_wp2
          go_roundw
          case rel => exact ⟨k + 1, by omega, by go_num, _, _, rfl, HO2.out, HB2.out⟩
          case measure => simp [intOf]; omega
    · obtain rfl : k = m := by omega
      go_wp2
      go_ret
      exact ⟨_, _, rfl, HO.out, HB.out⟩

set_option maxRecDepth 100000 in
set_option maxHeartbeats 1000000 in
theorem sUnit (n : Nat) (w : World) (hn : n ≤ 100) :
    Calls Try.prog 169 #[.int .i64 n] w (MPost n (M.unitM n) w) := by
  go_enter Try.func169, Try.ntmps169
  go_wp2_with fail
  refine (sBottom n n _ hn hn).mono ?_
  rintro e w1 ⟨a, cap, rfl, hO, hb⟩
  have hO' : OwnM w1 w.heap.size (.slice a n cap) (M.mk n n fun i j => if i = j ∧ i < 0 then 0 else -1000000000000000) :=
    (congrArg (OwnM _ _ _) (M.mk_congr fun i _ j _ => by rw [if_neg (by omega)])).mp hO
  have HO0 := Lib.hid hO'
  have HB0 := Lib.hid hb
  clear hO hb hO'
  go_wp2
  go_loopw [4] (fun i wr => ∃ k : Nat, k ≤ n ∧ i = .int .i64 k ∧ OwnM wr w.heap.size (.slice a n cap) (M.mk n n fun i j => if i = j ∧ i < k then 0 else -1000000000000000) ∧ Below w.heap.size w wr) (fun i _ => n - (intOf i).toNat)
  case atStart => exact ⟨0, Nat.zero_le _, rfl, HO0.out, HB0.out⟩
  case round =>
    obtain ⟨k, hk, rfl, hO, hb⟩ := hrel
    have HO := Lib.hid hO
    have HB := Lib.hid hb
    clear hO hb
    by_cases hlt : k < n
    · obtain ⟨g, q, L, c, x, rfl, hg, hq, hL, hx, h1, h2, h3, h4⟩ := HO.out.at k k hlt (by rw [M.mk_rowlen _ _ _ _ hlt]; exact hlt)
      rw [M.mk_rowlen _ _ _ _ hlt] at hL
      obtain rfl : n = L := hL.symm
      have hN := h4 0
      rw [M.mk_set _ _ _ _ _ _ hlt] at hN
      have HN := Lib.hid hN
      have hki : (k : Int) < (n : Int) := by omega
      clear hx h4 hN
      go_wp2
      go_roundw
      case rel =>
        refine ⟨k + 1, by omega, by go_num, (congrArg (OwnM _ _ _) (M.mk_congr fun i _ j _ => ?_)).mp HN.out, HB.out.setCell hq _⟩
        by_cases e : i = k
        · subst e
          by_cases e2 : j = i
          · subst e2; simp
          · rw [if_pos rfl, if_neg e2, if_neg (by omega), if_neg (by omega)]
        · rw [if_neg e]
          by_cases e2 : i = j ∧ i < k
          · rw [if_pos e2, if_pos (by omega)]
          · rw [if_neg e2, if_neg (by omega)]
      case measure => simp [intOf]; omega
    · obtain rfl : k = n := by omega
      go_wp2
      go_ret
      refine ⟨_, _, rfl, (congrArg (OwnM _ _ _) (M.mk_congr fun i hi j _ => ?_)).mp HO.out, HB.out⟩
      by_cases e : i = j
      · rw [if_pos ⟨e, hi⟩, if_pos e]
      · rw [if_neg (by omega), if_neg e]



end Go.Proofs.Ytphobmddkphofaa.V

namespace Go.Proofs.Ytphobmddkphofaa.V
open Go.RowKit

set_option maxRecDepth 100000 in
set_option maxHeartbeats 400000 in
theorem plus (a b : Int) (w : World) : Calls Try.prog 174 #[.int .i64 a, .int .i64 b] w fun e w' => e = .returned (.int .i64 (max a b)) ∧ w = w' := by
  go_enter Try.func174, Try.ntmps174
  go_wp2
  all_goals
    go_ret
    exact ⟨retI (by omega), rfl⟩

set_option maxRecDepth 100000 in
set_option maxHeartbeats 400000 in
theorem sAll (a : Option Addr) (n cap : Nat) (l : List Int) (w : World) (h : Ints .i64 w a n l) :
    Calls Try.prog 115 #[.slice a n cap, .bool false] w fun e w' => e = .returned (.bool (l.all M.isVal)) ∧ w = w' := by
  obtain ⟨hl, hm, hr⟩ := h
  unfold maxLen at hm
  have HL := Lib.hid hl
  clear hl
  go_enter Try.func115, Try.ntmps115
  go_wp2
  go_loop [5] (fun i => ∃ k : Nat, k ≤ n ∧ i = .int .i64 k ∧ Hid ((l.take k).all M.isVal = true)) (fun i => n - (intOf i).toNat)
  case atStart => exact ⟨0, Nat.zero_le _, rfl, rfl⟩
  case round =>
    obtain ⟨k, hk, rfl, HA⟩ := hrel
    by_cases hlt : k < n
    · rcases hr with h0 | ⟨b, off, rfl, hbl, hc⟩
      · omega
      · have hck := hc k hlt
        have hsn := M.take_snoc l k (by have := HL.out; omega)
        obtain ⟨x, hx⟩ : ∃ x, x = l.getD k 0 := ⟨_, rfl⟩
        rw [← hx] at hck hsn
        have HX := Lib.hid hx
        have HS := Lib.hid hsn
        clear hc hx hsn
        by_cases hv : M.isVal x = true
        · have HA2 : Hid ((l.take (k + 1)).all M.isVal = true) := by show _ = _; rw [HS.out, M.all_snoc, HA.out, hv]; rfl
          go_wp2_with (first | (go_at_call 148; refine (sIsValue _ _).mono ?_; rintro e w' ⟨rfl, rfl⟩))
          go_round
          case rel => exact ⟨k + 1, by omega, by go_num, HA2⟩
          case measure => simp [intOf]; omega
        · simp only [Bool.not_eq_true] at hv
          have HF : Hid (l.all M.isVal = false) := M.all_false _ l k (by have := HL.out; omega) (by rw [← HX.out]; exact hv)
          go_wp2_with (first | (go_at_call 148; refine (sIsValue _ _).mono ?_; rintro e w' ⟨rfl, rfl⟩))
          go_ret
          exact ⟨retB (by rw [HF.out]), rfl⟩
    · have hkn : k = n := by omega
      subst hkn
      have HT : Hid (l.take k = l) := M.take_all l k (by have := HL.out; omega)
      clear hr
      go_wp2
      go_ret
      exact ⟨retB (by rw [← HT.out, HA.out]), rfl⟩


end Go.Proofs.Ytphobmddkphofaa.V

namespace Go.Proofs.Ytphobmddkphofaa.V
open Go.RowKit

end Go.Proofs.Ytphobmddkphofaa.V

namespace Go.Proofs.Ytphobmddkphofaa.V
open Go.RowKit

theorem tm_val {R : List (List Int)} {n L : Nat} (hR : M.isMat R = true) (hr : Rect R n L) (hn : 0 < n) {i j : Nat} (hi : i < n) (hj : j < L) : M.isVal (M.ent R i j) = true :=
  M.isMat_val hR (by rw [hr.1]; exact hi) (by rw [hr.wid hn]; exact hj)

set_option maxRecDepth 100000 in
set_option maxHeartbeats 400000 in
theorem sTimesB (a b : Int) (w : World) (ha : M.Big a) (hb : M.Big b) : Calls Try.prog 171 #[.int .i64 a, .int .i64 b] w fun e w' => e = .returned (.int .i64 (M.times a b)) ∧ w = w' := by
  have ba := M.big_bound ha
  have bb := M.big_bound hb
  clear ha hb
  obtain ⟨ba1, ba2⟩ := ba
  obtain ⟨bb1, bb2⟩ := bb
  by_cases h : a = -1000000000000000
  · subst h
    go_enter Try.func171, Try.ntmps171
    go_wp2
    all_goals go_ret; exact ⟨retI (by simp [M.times]), rfl⟩
  · have h' : (a == -1000000000000000) = false := by simpa using h
    by_cases h2 : b = -1000000000000000
    · subst h2
      go_enter Try.func171, Try.ntmps171
      go_wp2
      all_goals go_ret; exact ⟨retI (by simp [M.times]), rfl⟩
    · have h2' : (b == -1000000000000000) = false := by simpa using h2
      go_enter Try.func171, Try.ntmps171
      go_wp2
      all_goals go_ret; exact ⟨retI (by simp [M.times, h, h2]), rfl⟩

/-- The entries that are done, the one that is being summed, and those still Bottom. -/
def M.mulS (R R' : List (List Int)) (N i j k : Nat) (s t : Nat) : Int :=
  if s < i ∨ (s = i ∧ t < j) then M.dot R R' s t N else if s = i ∧ t = j then M.dot R R' s t k else -1000000000000000

set_option maxRecDepth 100000 in
set_option maxHeartbeats 4000000 in
theorem sMultiplyB (a : Option Addr) (n cap N : Nat) (R : List (List Int)) (a' : Option Addr) (cap' L : Nat) (R' : List (List Int)) (w : World) (h : Mat w a n R) (h' : Mat w a' N R') (hr : Rect R n N) (hr' : Rect R' N L)
    (hR : ∀ i k, i < n → k < N → M.Big (M.ent R i k)) (hR' : ∀ k j, k < N → j < L → M.Big (M.ent R' k j)) (n1 : 1 ≤ n) (n2 : n ≤ 10) (N1 : 1 ≤ N) (N2 : N ≤ 10) (l1 : 1 ≤ L) (l2 : L ≤ 10) :
    Calls Try.prog 153 #[.slice a n cap, .slice a' N cap'] w (MPost n (M.mk n L (fun i j => M.dot R R' i j N)) w) := by
  have HA := Lib.hid h
  have HA' := Lib.hid h'
  have HR := Lib.hid hr
  have HR' := Lib.hid hr'
  have HV := Lib.hid hR
  have HV' := Lib.hid hR'
  obtain ⟨b', off', ra', rc', rfl, -, hc'⟩ := h'.rect_first hr' (by omega)
  clear h h' hr hr' hR hR'
  go_enter Try.func153, Try.ntmps153
  go_wp2_with fail
  refine (sBottom n L _ (by omega) (by omega)).mono ?_
  rintro e w1 ⟨a2, cap2, rfl, ho, hb⟩
  have HO0 : Hid (OwnM w1 w.heap.size (.slice a2 n cap2) (M.mk n L (M.mulS R R' N 0 0 0))) :=
    (congrArg (OwnM _ _ _) (M.mk_congr fun i _ j _ => by
      unfold M.mulS
      rw [if_neg (by omega)]
      by_cases e : i = 0 ∧ j = 0
      · rw [if_pos e]; rfl
      · rw [if_neg e])).mp ho
  have HB0 := Lib.hid hb
  clear ho hb
  go_wp2
  go_loopw [6] (fun i wr => ∃ k : Nat, k ≤ n ∧ i = .int .i64 k ∧ OwnM wr w.heap.size (.slice a2 n cap2) (M.mk n L (M.mulS R R' N k 0 0)) ∧ Below w.heap.size w wr) (fun i _ => n - (intOf i).toNat)
  case atStart => exact ⟨0, Nat.zero_le _, rfl, HO0.out, HB0.out⟩
  case round =>
    obtain ⟨k, hk, rfl, hO, hb⟩ := hrel
    obtain ⟨wo, rfl⟩ : ∃ x, x = wr := ⟨_, rfl⟩
    have HO := Lib.hid hO
    have HB := Lib.hid hb
    clear hO hb HO0 HB0
    by_cases hlt : k < n
    · have hki : (k : Int) < (n : Int) := by omega
      go_wp2
      go_loopw [7] (fun j wr => ∃ t : Nat, t ≤ L ∧ j = .int .i64 t ∧ OwnM wr w.heap.size (.slice a2 n cap2) (M.mk n L (M.mulS R R' N k t 0)) ∧ Below w.heap.size w wr) (fun j _ => L - (intOf j).toNat)
      case atStart => exact ⟨0, Nat.zero_le _, rfl, HO.out, HB.out⟩
      case round =>
        obtain ⟨t, ht, rfl, hO, hb⟩ := hrel
        obtain ⟨wp, rfl⟩ : ∃ x, x = wr := ⟨_, rfl⟩
        have HOi := Lib.hid hO
        have HBi := Lib.hid hb
        clear hO hb HB HO
        have hc2 : wp.cell? ⟨b', off', none⟩ = some (.slice ra' L rc') := by
          obtain ⟨d, od, rd, rcd, hdd, hbd, hcd⟩ := HA'.out.rect_first HR'.out (by omega)
          injection hdd with hdd
          injection hdd with e1 e2
          subst e1 e2
          rw [HBi.out.cell (p := ⟨b', off', none⟩) hbd]
          exact hc'
        by_cases htl : t < L
        · have hti : (t : Int) < (L : Int) := by omega
          go_wp2
          go_loopw [8] (fun l wr => ∃ u : Nat, u ≤ N ∧ l = .int .i64 u ∧ OwnM wr w.heap.size (.slice a2 n cap2) (M.mk n L (M.mulS R R' N k t u)) ∧ Below w.heap.size w wr) (fun l _ => N - (intOf l).toNat)
          case atStart => exact ⟨0, Nat.zero_le _, rfl, HOi.out, HBi.out⟩
          case round =>
            obtain ⟨u, hu, rfl, hO, hb⟩ := hrel
            have HOj := Lib.hid hO
            have HBj := Lib.hid hb
            clear hO hb HBi HOi hc2
            by_cases hul : u < N
            · have hui : (u : Int) < (N : Int) := by omega
              obtain ⟨g, q, L3, c3, x3, rfl, hg3, hq3, hL3, hx3, c31, c32, f31, ho3⟩ := HOj.out.at k t hlt (by rw [M.mk_rowlen _ _ _ _ hlt]; exact htl)
              rw [M.mk_rowlen _ _ _ _ hlt] at hL3
              subst hL3
              rw [M.mk_ent _ _ _ _ _ hlt htl] at hx3
              obtain ⟨d, od, rd, ro, c4, x4, rfl, hx4, c41, c42⟩ := (HA.out.below HBj.out).rect_ent HR.out k u hlt hul
              obtain ⟨d', od', rd', ro', c5, x5, hdd, hx5, c51, c52⟩ := (HA'.out.below HBj.out).rect_ent HR'.out u t hul htl
              injection hdd with hdd
              injection hdd with e1 e2
              subst e1 e2
              have hv4 : M.Big x4 := by rw [hx4]; exact HV.out k u hlt hul
              have hv5 : M.Big x5 := by rw [hx5]; exact HV'.out u t hul htl
              have HV4 := Lib.hid hv4
              have HV5 := Lib.hid hv5
              obtain ⟨y, hy⟩ : ∃ y, y = M.times x4 x5 := ⟨_, rfl⟩
              have HN : Hid (OwnM (wr.setCell ⟨q, t, none⟩ (.int .i64 (if x3 < y then y else x3))) w.heap.size (.slice (some ⟨g, 0, none⟩) n cap2) (M.mk n L3 (M.mulS R R' N k t (u + 1)))) := by
                refine (congrArg (OwnM _ _ _) ?_).mp (ho3 (if x3 < y then y else x3))
                rw [M.mk_set _ _ _ _ _ _ hlt]
                refine M.mk_congr fun i _ j _ => ?_
                rw [← M.ifmax, hx3, hy, hx4, hx5]
                unfold M.mulS
                rw [if_neg (show ¬(k < k ∨ k = k ∧ t < t) by omega), if_pos (show k = k ∧ t = t from ⟨rfl, rfl⟩)]
                by_cases e : i = k
                · subst e
                  rw [if_pos rfl]
                  by_cases e2 : j = t
                  · subst e2
                    rw [if_pos rfl, if_neg (show ¬(i < i ∨ i = i ∧ j < j) by omega), if_pos (show i = i ∧ j = j from ⟨rfl, rfl⟩)]
                    rfl
                  · rw [if_neg e2]
                    by_cases e3 : i < i ∨ i = i ∧ j < t
                    · rw [if_pos e3, if_pos e3]
                    · rw [if_neg e3, if_neg e3, if_neg (by omega), if_neg (by omega)]
                · rw [if_neg e]
                  by_cases e3 : i < k ∨ i = k ∧ j < t
                  · rw [if_pos e3, if_pos e3]
                  · rw [if_neg e3, if_neg e3, if_neg (by omega), if_neg (by omega)]
              have HC : ∀ w : World, Calls Try.prog 171 #[.int .i64 x4, .int .i64 x5] w fun e w' => e = .returned (.int .i64 y) ∧ w = w' := by
                intro w
                rw [hy]
                exact sTimesB _ _ _ HV4.out HV5.out
              clear ho3 hx3 hx4 hx5 hv4 hv5 hy
              go_wp2
              go_still_tail 29, (by kernel_rfl)
              still_call (st_of (HC _))
              repeat still_step
              refine wpStill_nil ?_
              change wpList _ _ _ _ _ wr.drew
              go_wp2
              first
                | exact ⟨⟨u + 1, by omega, by go_num, HN.out.keep (fun _ _ _ => rfl), HBj.out.drew.setCell hq3 _⟩, by simp [intOf]; omega⟩
                | (go_roundw
                   case rel => exact ⟨u + 1, by omega, by go_num, HN.out.keep (fun _ _ _ => rfl), HBj.out.drew.setCell hq3 _⟩
                   case measure => simp [intOf]; omega)
            · obtain rfl : u = N := by omega
              have HO2 : Hid (OwnM wr w.heap.size (.slice a2 n cap2) (M.mk n L (M.mulS R R' u k (t + 1) 0))) :=
                (congrArg (OwnM _ _ _) (M.mk_congr fun i hi j _ => by
                  unfold M.mulS
                  by_cases e : i < k ∨ i = k ∧ j < t
                  · rw [if_pos e, if_pos (by omega)]
                  · rw [if_neg e]
                    by_cases e2 : i = k ∧ j = t
                    · rw [if_pos e2, if_pos (by omega)]
                    · rw [if_neg e2, if_neg (by omega)]
                      by_cases e3 : i = k ∧ j = t + 1
                      · rw [if_pos e3]; rfl
                      · rw [if_neg e3])).mp HOj.out
              go_wp2
              go_roundw
              case rel => exact ⟨t + 1, by omega, by go_num, HO2.out, HBj.out⟩
              case measure => simp [intOf]; omega
        · obtain rfl : t = L := by omega
          have HO2 : Hid (OwnM wp w.heap.size (.slice a2 n cap2) (M.mk n t (M.mulS R R' N (k + 1) 0 0))) :=
            (congrArg (OwnM _ _ _) (M.mk_congr fun i hi j hj => by
              unfold M.mulS
              by_cases e : i < k ∨ i = k ∧ j < t
              · rw [if_pos e, if_pos (by omega)]
              · rw [if_neg e, if_neg (by omega), if_neg (by omega)]
                by_cases e3 : i = k + 1 ∧ j = 0
                · rw [if_pos e3]; rfl
                · rw [if_neg e3])).mp HOi.out
          go_wp2
          go_roundw
          case rel => exact ⟨k + 1, by omega, by go_num, HO2.out, HBi.out⟩
          case measure => simp [intOf]; omega
    · obtain rfl : k = n := by omega
      go_wp2
      go_ret
      exact ⟨_, _, rfl, (congrArg (OwnM _ _ _) (M.mk_congr fun i hi j _ => by unfold M.mulS; rw [if_pos (.inl hi)])).mp HO.out, HB.out⟩
theorem sMultiply (a : Option Addr) (n cap N : Nat) (R : List (List Int)) (a' : Option Addr) (cap' L : Nat) (R' : List (List Int)) (w : World) (h : Mat w a n R) (h' : Mat w a' N R') (hr : Rect R n N) (hr' : Rect R' N L)
    (hR : M.isMat R = true) (hR' : M.isMat R' = true) (n1 : 1 ≤ n) (n2 : n ≤ 10) (N1 : 1 ≤ N) (N2 : N ≤ 10) (l1 : 1 ≤ L) (l2 : L ≤ 10) :
    Calls Try.prog 153 #[.slice a n cap, .slice a' N cap'] w (MPost n (M.mk n L (fun i j => M.dot R R' i j N)) w) :=
  sMultiplyB a n cap N R a' cap' L R' w h h' hr hr' (fun i k hi hk => M.big_val (tm_val hR hr (by omega) hi hk)) (fun k j hk hj => M.big_val (tm_val hR' hr' (by omega) hk hj)) n1 n2 N1 N2 l1 l2
end Go.Proofs.Ytphobmddkphofaa.V

namespace Go.Proofs.Ytphobmddkphofaa.V
open Go.RowKit

set_option maxRecDepth 100000 in
set_option maxHeartbeats 400000 in
theorem clPlus (a b : Int) (w : World) : Calls Try.prog 173 #[.int .i64 a, .int .i64 b] w fun e w' => e = .returned (.int .i64 (max a b)) ∧ w = w' := by
  go_enter Try.func173, Try.ntmps173
  go_wp2_with (first | (go_at_call 174; refine (plus _ _ _).mono ?_; rintro e w' ⟨rfl, rfl⟩))
  go_ret
  exact ⟨rfl, rfl⟩

/-- The pair of operations. -/
theorem maxPlus (w : World) : Calls Try.prog 156 #[] w fun e w' => e = .returned (.agg #[.func (.func 173) #[] #[], .func (.func 175) #[] #[]]) ∧ Below w.heap.size w w' := by
  have hst : ∀ (w : World) (a : Addr) (f : Fn), (store a (.func f #[] #[])).run Try.prog w = stored Try.prog w a (.func f #[] #[]) .plain := fun w a f => run_store _ w a _ _ rfl
  go_enter Try.func156, Try.ntmps156
  go_wp2
  exact bodyPost_ret (v := .agg #[.func (.func 173) #[] #[], .func (.func 175) #[] #[]]) (by simp [results, Try.results156, go_sem]) rfl ⟨rfl, b_alloc _ _⟩

theorem fld0 (w : World) (f g : Fn) : (Instr.field 145 (.agg #[.func f #[] #[], .func g #[] #[]]) 0).run Try.prog w = .ok (.func f #[] #[]) w := by
  simp [Instr.field, part, asAgg, go_sem]
end Go.Proofs.Ytphobmddkphofaa.V

namespace Go.Proofs.Ytphobmddkphofaa.V
open Go.RowKit

set_option maxRecDepth 100000 in
set_option maxHeartbeats 400000 in
theorem timesB (a b : Int) (w : World) (ha : M.Big a) (hb : M.Big b) : Calls Try.prog 176 #[.int .i64 a, .int .i64 b] w fun e w' => e = .returned (.int .i64 (M.times a b)) ∧ w = w' := by
  have ba := M.big_bound ha
  have bb := M.big_bound hb
  clear ha hb
  obtain ⟨ba1, ba2⟩ := ba
  obtain ⟨bb1, bb2⟩ := bb
  by_cases h : a = -1000000000000000
  · subst h
    go_enter Try.func176, Try.ntmps176
    go_wp2
    all_goals go_ret; exact ⟨retI (by simp [M.times]), rfl⟩
  · have h' : (a == -1000000000000000) = false := by simpa using h
    by_cases h2 : b = -1000000000000000
    · subst h2
      go_enter Try.func176, Try.ntmps176
      go_wp2
      all_goals go_ret; exact ⟨retI (by simp [M.times]), rfl⟩
    · have h2' : (b == -1000000000000000) = false := by simpa using h2
      go_enter Try.func176, Try.ntmps176
      go_wp2
      all_goals go_ret; exact ⟨retI (by simp [M.times, h, h2]), rfl⟩

set_option maxRecDepth 100000 in
set_option maxHeartbeats 400000 in
theorem clTimes (a b : Int) (w : World) (ha : M.Big a) (hb : M.Big b) : Calls Try.prog 175 #[.int .i64 a, .int .i64 b] w fun e w' => e = .returned (.int .i64 (M.times a b)) ∧ w = w' := by
  have HA := Lib.hid ha
  have HB := Lib.hid hb
  clear ha hb
  go_enter Try.func175, Try.ntmps175
  go_wp2_with (first | (go_at_call 176; refine (timesB _ _ _ HA.out HB.out).mono ?_; rintro e w' ⟨rfl, rfl⟩))
  go_ret
  exact ⟨rfl, rfl⟩

theorem dot_one {R R' : List (List Int)} {i j : Nat} (h : M.Big (M.ent R i 0)) (h' : M.Big (M.ent R' 0 j)) : M.dot R R' i j 1 = M.times (M.ent R i 0) (M.ent R' 0 j) :=
  M.sumN_one (M.big_times_ge h h')

set_option maxRecDepth 100000 in
set_option maxHeartbeats 4000000 in
theorem multipliedB (a : Option Addr) (n cap N : Nat) (R : List (List Int)) (a' : Option Addr) (cap' L : Nat) (R' : List (List Int)) (w : World) (h : Mat w a n R) (h' : Mat w a' N R') (hr : Rect R n N) (hr' : Rect R' N L)
    (hR : ∀ i k, i < n → k < N → M.Big (M.ent R i k)) (hR' : ∀ k j, k < N → j < L → M.Big (M.ent R' k j)) (n1 : 1 ≤ n) (n2 : n ≤ 10) (N1 : 1 ≤ N) (N2 : N ≤ 10) (l1 : 1 ≤ L) (l2 : L ≤ 10) :
    Calls Try.prog 155 #[.slice a n cap, .slice a' N cap', .agg #[.func (.func 173) #[] #[], .func (.func 175) #[] #[]]] w (MPost n (M.mk n L (fun i j => M.dot R R' i j N)) w) := by
  obtain ⟨wb, hwb⟩ : ∃ wb, wb = w.alloc (.cells #[.func (.func 173) #[] #[], .func (.func 175) #[] #[]] 145) := ⟨_, rfl⟩
  have hsb : wb.heap.size = w.heap.size + 1 := by rw [hwb]; simp
  have hbw : Below w.heap.size w wb := by rw [hwb]; exact b_alloc _ _
  have k0 : wb.cell? ⟨w.heap.size, 0, none⟩ = some (.func (.func 173) #[] #[]) := by rw [hwb]; simp [go_sem]
  have k1 : wb.cell? ⟨w.heap.size, 1, none⟩ = some (.func (.func 175) #[] #[]) := by rw [hwb]; simp [go_sem]
  have HA := Lib.hid (h.below hbw)
  have HA' := Lib.hid (h'.below hbw)
  have HR := Lib.hid hr
  have HR' := Lib.hid hr'
  have HV := Lib.hid hR
  have HV' := Lib.hid hR'
  have HK0 := Lib.hid k0
  have HK1 := Lib.hid k1
  have HBW := Lib.hid hbw
  have HSB := Lib.hid hsb
  have HWB := Lib.hid hwb
  obtain ⟨b, off, -, -, rfl, -, -⟩ := h.rect_first hr (by omega)
  obtain ⟨b', off', -, -, rfl, -, -⟩ := h'.rect_first hr' (by omega)
  have hmk := run_make_row' (P := Try.prog) 42 29 (.slice none 0 0) 24 Try.underlying42 infoS64 rfl .i64 .i64 n (by omega) (by omega)
  have hmk2 := run_make_row' (P := Try.prog) 29 2 (.int .i64 0) 8 Try.underlying29 info64 rfl .i64 .i64 L (by omega) (by omega)
  have hO0 : Hid (OwnM (wb.alloc (.cells (madeCells #[.slice none 0 0] n) 29)) wb.heap.size (.slice (some ⟨wb.heap.size, 0, none⟩) n n) (M.part n L (fun i j => M.dot R R' i j N) 0)) := by
    rw [M.part_zero]; exact ownM_made wb _ n (Nat.le_refl _) (by unfold maxLen; omega)
  have HB0 : Hid (Below wb.heap.size wb (wb.alloc (.cells (madeCells #[.slice none 0 0] n) 29))) := b_alloc wb _
  clear h h' hr hr' hR hR' hwb hsb hbw k0 k1
  go_enter Try.func155, Try.ntmps155
  go_wp2
  go_loopw [18] (fun i wr => ∃ k : Nat, k ≤ n ∧ i = .int .i64 k ∧ OwnM wr (w.heap.size + 1) (.slice (some ⟨w.heap.size + 1, 0, none⟩) n n) (M.part n L (fun i j => M.dot R R' i j N) k) ∧ Below (w.heap.size + 1) wb wr) (fun i _ => n - (intOf i).toNat)
  case atStart =>
    refine ⟨0, Nat.zero_le _, rfl, ?_, ?_⟩
    · have := hO0.out
      rw [HSB.out, HWB.out] at this
      exact this
    · have := HB0.out
      rw [HSB.out] at this
      rw [HWB.out] at this ⊢
      exact this
  case round =>
    obtain ⟨k, hk, rfl, hO, hb⟩ := hrel
    obtain ⟨wo, rfl⟩ : ∃ x, x = wr := ⟨_, rfl⟩
    have HO := Lib.hid hO
    have HB := Lib.hid hb
    clear hO hb hO0 HB0
    by_cases hlt : k < n
    · have hki : (k : Int) < (n : Int) := by omega
      have hg := HO.out.lt rfl
      have hsz : w.heap.size + 1 ≤ wo.heap.size := by have := HB.out.size; have := HSB.out; omega
      have HBx : Hid (Below wb.heap.size wb wo) := by show Below _ _ _; rw [HSB.out]; exact HB.out
      obtain ⟨d, od, rr, rcr, hdd, hbr, hcr0, hIr⟩ := HA.out.rect_at HR.out k hlt
      injection hdd with hdd
      injection hdd with e1 e2
      subst e1 e2
      have hcr : wo.cell? ⟨b, off + k, none⟩ = some (.slice rr N rcr) := by rw [HBx.out.cell (p := ⟨b, off + k, none⟩) hbr]; exact hcr0
      have HIR := Lib.hid hIr
      obtain ⟨rrb, rro, x0, rfl, -, hx0, hcx⟩ := hIr.at 0 (by omega)
      obtain ⟨d, od, rf, rcf, hdd, -, hcf⟩ := (HA'.out.below HBx.out).rect_first HR'.out (by omega)
      injection hdd with hdd
      injection hdd with e1 e2
      subst e1 e2
      obtain ⟨v0, hv0⟩ := HO.out.outer k hlt
      have hfz0 := HO.out.outerFz k
      have hO2 := HO.out.setRow (b_alloc wo (.cells (madeCells #[.int .i64 0] L) 2)) hsz (own_made wo wo.heap.size L (Nat.le_refl _) (by unfold maxLen; omega)) k hlt
      rw [M.part_set] at hO2
      rw [World.setCell_alloc_past _ _ _ _ hg] at hO2
      have HO2 := Lib.hid hO2
      have hB2 := (((HB.out.alloc hsz (.cells (madeCells #[.int .i64 0] L) 2))).setCell (p := ⟨w.heap.size + 1, k, none⟩) (Nat.le_refl _) (.slice (some ⟨wo.heap.size, 0, none⟩) L L))
      rw [World.setCell_alloc_past _ _ _ _ hg] at hB2
      have HB2 := Lib.hid hB2
      clear hO2 hB2 hIr hx0 hcx hcr0
      go_wp2
      clear hv0 hfz0 hg hcf hcr
      go_loopw [36] (fun j wr => ∃ t : Nat, t ≤ L ∧ j = .int .i64 t ∧ OwnM wr (w.heap.size + 1) (.slice (some ⟨w.heap.size + 1, 0, none⟩) n n) (M.part2 n L (fun i j => M.dot R R' i j N) k t) ∧ Below (w.heap.size + 1) wb wr) (fun j _ => L - (intOf j).toNat)
      case atStart => exact ⟨0, Nat.zero_le _, rfl, HO2.out, HB2.out⟩
      case round =>
        obtain ⟨t, ht, rfl, hO, hb⟩ := hrel
        obtain ⟨wp, rfl⟩ : ∃ x, x = wr := ⟨_, rfl⟩
        have HOi := Lib.hid hO
        have HBi := Lib.hid hb
        clear hO hb HO2 HB2 HO
        by_cases htl : t < L
        · have hti : (t : Int) < (L : Int) := by omega
          have HBy : Hid (Below wb.heap.size wb wp) := by show Below _ _ _; rw [HSB.out]; exact HBi.out
          have q0 : wp.cell? ⟨w.heap.size, 0, none⟩ = some (.func (.func 173) #[] #[]) := by rw [HBi.out.cell (p := ⟨w.heap.size, 0, none⟩) (Nat.lt_succ_self _)]; exact HK0.out
          have q1 : wp.cell? ⟨w.heap.size, 1, none⟩ = some (.func (.func 175) #[] #[]) := by rw [HBi.out.cell (p := ⟨w.heap.size, 1, none⟩) (Nat.lt_succ_self _)]; exact HK1.out
          obtain ⟨rx, ro, x1, hrr, -, hx1, hcx1⟩ := (HIR.out.below HBy.out).at 0 (by omega)
          injection hrr with hrr
          injection hrr with e1 e2
          subst e1 e2
          rw [Nat.add_zero] at hcx1
          obtain ⟨d, od, rd, rdo, c4, x2, hdd, hx2, c41, c42⟩ := (HA'.out.below HBy.out).rect_ent HR'.out 0 t (by omega) htl
          injection hdd with hdd
          injection hdd with e1 e2
          subst e1 e2
          rw [Nat.add_zero] at c41
          have hx1' : x1 = M.ent R k 0 := hx1
          have HV1 : Hid (M.Big x1) := by show M.Big _; rw [hx1']; exact HV.out k 0 hlt (by omega)
          have HV2 : Hid (M.Big x2) := by show M.Big _; rw [hx2]; exact HV'.out 0 t (by omega) htl
          obtain ⟨s1, hs1⟩ : ∃ s1, s1 = M.dot R R' k t 1 := ⟨_, rfl⟩
          have HS1 := Lib.hid hs1
          have HC1 : ∀ w : World, Calls Try.prog 175 #[.int .i64 x1, .int .i64 x2] w fun e w' => e = .returned (.int .i64 s1) ∧ w = w' := by
            intro w
            rw [hs1, dot_one (HV.out k 0 hlt (by omega)) (HV'.out 0 t (by omega) htl), ← hx1', ← hx2]
            exact clTimes _ _ _ HV1.out HV2.out
          obtain ⟨g, q, L3, c3, x3, hgg, hg3, hq3, hL3, hx3, c31, c32, f31, ho3⟩ := HOi.out.at k t hlt (by rw [M.part2_rowlen _ _ _ _ _ hlt]; exact htl)
          injection hgg with hgg
          injection hgg with hgg
          subst hgg
          rw [M.part2_rowlen _ _ _ _ _ hlt] at hL3
          subst hL3
          have HN : Hid (OwnM (wp.setCell ⟨q, t, none⟩ (.int .i64 (M.dot R R' k t N))) (w.heap.size + 1) (.slice (some ⟨w.heap.size + 1, 0, none⟩) n n) (M.part2 n L3 (fun i j => M.dot R R' i j N) k (t + 1))) :=
            (congrArg (OwnM _ _ _) (M.part2_set _ _ (fun i j => M.dot R R' i j N) _ _ hlt)).mp (ho3 (M.dot R R' k t N))
          clear hs1 hx1 hx1' hx2 hx3 ho3
          go_wp2
          go_quiet ((go_at_call 175; exact q_one_s (HC1 _)))
          clear hcx1 c42 c41
          go_wp2
          go_loopw [11, 12] (fun sm l wr => ∃ u : Nat, 1 ≤ u ∧ u ≤ N ∧ l = .int .i64 u ∧ (∃ y, sm = .int .i64 y ∧ Hid (y = M.dot R R' k t u)) ∧ ∃ q, wr = wp.drewN q) (fun _ l _ => N - (intOf l).toNat)
          case atStart => exact ⟨1, Nat.le_refl _, N1, rfl, ⟨_, rfl, HS1⟩, _, rfl⟩
          case round =>
            obtain ⟨u, hu1, hu, rfl, ⟨y, rfl, HY⟩, q2, rfl⟩ := hrel
            by_cases hul : u < N
            · have hui : (u : Int) < (N : Int) := by omega
              obtain ⟨rx, ro, x1, hrr, -, hx1, hcx1⟩ := (HIR.out.below HBy.out).at u hul
              injection hrr with hrr
              injection hrr with e1 e2
              subst e1 e2
              obtain ⟨d, od, rd, rdo, c4, x2, hdd, hx2, c41, c42⟩ := (HA'.out.below HBy.out).rect_ent HR'.out u t hul htl
              injection hdd with hdd
              injection hdd with e1 e2
              subst e1 e2
              have hx1' : x1 = M.ent R k u := hx1
              have HV1 : Hid (M.Big x1) := by show M.Big _; rw [hx1']; exact HV.out k u hlt hul
              have HV2 : Hid (M.Big x2) := by show M.Big _; rw [hx2]; exact HV'.out u t hul htl
              obtain ⟨z, hz⟩ : ∃ z, z = M.times x1 x2 := ⟨_, rfl⟩
              obtain ⟨y2, hy2⟩ : ∃ y2, y2 = max y z := ⟨_, rfl⟩
              have HY2 : Hid (y2 = M.dot R R' k t (u + 1)) := by show _ = _; rw [hy2, hz, HY.out, hx1', hx2]; rfl
              have HC1 : ∀ w : World, Calls Try.prog 175 #[.int .i64 x1, .int .i64 x2] w fun e w' => e = .returned (.int .i64 z) ∧ w = w' := by
                intro w
                rw [hz]
                exact clTimes _ _ _ HV1.out HV2.out
              have HC2 : ∀ w : World, Calls Try.prog 173 #[.int .i64 y, .int .i64 z] w fun e w' => e = .returned (.int .i64 y2) ∧ w = w' := by
                intro w
                rw [hy2]
                exact clPlus _ _ _
              clear hx1 hx1' hx2 hz hy2
              go_wp2
              go_quiet (first | (go_at_call 175; exact q_more_s (HC1 _)) | (go_at_call 173; exact q_more_s (HC2 _)))
              go_wp2
              go_roundw
              case rel => exact ⟨u + 1, by omega, by omega, by go_num, ⟨_, rfl, HY2⟩, _, rfl⟩
              case measure => simp [intOf]; omega
            · obtain rfl : u = N := by omega
              go_wp2
              exact ⟨⟨t + 1, by omega, by go_num, by rw [HY.out]; exact HN.out.keep (fun _ _ _ => rfl), (below_drewN HBi.out _).setCell hq3 _⟩, by simp [intOf]; omega⟩
        · obtain rfl : t = L := by omega
          have hO2 := HOi.out
          rw [M.part2_end] at hO2
          have HO2 := Lib.hid hO2
          clear hO2
          go_wp2
          go_roundw
          case rel => exact ⟨k + 1, by omega, by go_num, HO2.out, HBi.out⟩
          case measure => simp [intOf]; omega
    · obtain rfl : k = n := by omega
      go_wp2
      go_ret
      refine ⟨_, _, rfl, ?_, ?_⟩
      · rw [← M.part_end]; exact HO.out.mono (Nat.le_succ _)
      · exact HBW.out.trans (HB.out.mono (Nat.le_succ _))
theorem multiplied (a : Option Addr) (n cap N : Nat) (R : List (List Int)) (a' : Option Addr) (cap' L : Nat) (R' : List (List Int)) (w : World) (h : Mat w a n R) (h' : Mat w a' N R') (hr : Rect R n N) (hr' : Rect R' N L)
    (hR : M.isMat R = true) (hR' : M.isMat R' = true) (n1 : 1 ≤ n) (n2 : n ≤ 10) (N1 : 1 ≤ N) (N2 : N ≤ 10) (l1 : 1 ≤ L) (l2 : L ≤ 10) :
    Calls Try.prog 155 #[.slice a n cap, .slice a' N cap', .agg #[.func (.func 173) #[] #[], .func (.func 175) #[] #[]]] w (MPost n (M.mk n L (fun i j => M.dot R R' i j N)) w) :=
  multipliedB a n cap N R a' cap' L R' w h h' hr hr' (fun i k hi hk => M.big_val (tm_val hR hr (by omega) hi hk)) (fun k j hk hj => M.big_val (tm_val hR' hr' (by omega) hk hj)) n1 n2 N1 N2 l1 l2
end Go.Proofs.Ytphobmddkphofaa.V

namespace Go.Proofs.Ytphobmddkphofaa.V
open Go.RowKit



end Go.Proofs.Ytphobmddkphofaa.V
