/- Texts laid together: Pth6, Mean3, Cert. -/
import Derived.Test.YtmhpgnndjagogaaQc10
import Derived.Test.YtmhpgnndjagogaaQc8
import Derived.Test.YtmhpgnndjagogaaQc6
import Derived.Deep.RegionWith
import Derived.Deep.RegionHeld3
set_option linter.unusedSimpArgs false
set_option linter.unusedVariables false
set_option linter.unusedSectionVars false
namespace Go.Proofs.Ytmhpgnndjagogaa.V
open Go.RowKit

/-- Two integers are returned, and nothing that was there is changed. -/
def IPost (r : Int × Int) (w : World) (e : Ending) (w' : World) : Prop := e = .returned (.tuple #[.int .i64 r.1, .int .i64 r.2]) ∧ Below w.heap.size w w'
theorem IPost.mk {r : Int × Int} {x y : Int} {w w' : World} (h : r = (x, y)) (hb : Below w.heap.size w w') : IPost r w (.returned (.tuple #[.int .i64 x, .int .i64 y])) w' := by
  subst h; exact ⟨rfl, hb⟩
def BPost (b : Bool) (w : World) (e : Ending) (w' : World) : Prop := e = .returned (.bool b) ∧ Below w.heap.size w w'


end Go.Proofs.Ytmhpgnndjagogaa.V

namespace Go.Proofs.Ytmhpgnndjagogaa.V
open Go.RowKit

set_option maxRecDepth 100000 in
set_option maxHeartbeats 1000000 in
theorem isCycle (a : Option Addr) (n cap : Nat) (R : List (List Int)) (a' : Option Addr) (N cap' : Nat) (l : List Int) (w : World) (h : Mat w a n R) (h' : Ints .i64 w a' N l) (hc1 : N ≤ cap') (hc2 : cap' ≤ maxLen) :
    Calls Try.prog 29 #[.slice a n cap, .slice a' N cap'] w (BPost (M.isCycB R l) w) := by
  have HM := Lib.hid hc2
  have hm := h'.2.1
  unfold maxLen at hc2 hm
  have HA := Lib.hid h
  have HI := Lib.hid h'
  have HL := Lib.hid h'.1
  have HR := Lib.hid h.1
  by_cases hs : M.sqB R = true
  · have HS := Lib.hid hs
    have HQ := Lib.hid (sq_of h hs)
    obtain ⟨-, -, -, n1, n2⟩ := sq_of h hs
    clear h h' hs
    by_cases h0 : N = 0
    · subst h0
      have HE : Hid (M.isCycB R l = false) := by show _ = _; unfold M.isCycB M.cycB; rw [HL.out]; simp
      go_enter Try.func29, Try.ntmps29
      go_wp2_with (go_at_call 46; refine (isSquare_b _ _ _ R _ true HS.out HA.out).mono ?_; rintro e w' ⟨rfl, rfl⟩)
      go_ret
      exact ⟨retB HE.out.symm, Below.refl _ _⟩
    · have d1 : 1 ≤ N := by omega
      by_cases hv : M.nodesB n l = true
      · have HV := Lib.hid hv
        clear hv
        obtain ⟨q, hq⟩ : ∃ q, q = M.diffB l := ⟨_, rfl⟩
        have HQd := Lib.hid hq
        have HC : Calls Try.prog 48 #[.slice a' N cap'] w fun e w' => e = .returned (.bool q) ∧ Below w.heap.size w w' := by
          rw [hq]
          exact areDifferent n _ _ _ _ _ HI.out HV.out n2
        clear hq
        cases q with
        | false =>
          have HE : Hid (M.isCycB R l = false) := by show _ = _; unfold M.isCycB M.cycB; rw [← HQd.out]; simp
          go_enter Try.func29, Try.ntmps29
          go_wp2_with (first | (go_at_call 46; refine (isSquare_b _ _ _ R _ true HS.out HA.out).mono ?_; rintro e w' ⟨rfl, rfl⟩) | (go_at_call 47; refine (areNodes_b _ n _ _ _ _ l _ true HV.out (by omega) HI.out).mono ?_; rintro e w' ⟨rfl, rfl⟩) | (go_at_call 48; refine HC.mono ?_; rintro e w1 ⟨rfl, hb⟩; have HB := Lib.hid hb; clear hb))
          go_ret
          exact ⟨retB HE.out.symm, HB.out⟩
        | true =>
          have hN : N ≤ n := by have := M.diffB_len HV.out HQd.out.symm; rw [HL.out] at this; exact this
          obtain ⟨y, hy⟩ : ∃ y, y = M.aroundW R l := ⟨_, rfl⟩
          have HY := Lib.hid hy
          have HC2 : ∀ w1, Below w.heap.size w w1 → Calls Try.prog 49 #[.slice a n cap, .slice a' N cap'] w1 fun e w' => e = .returned (.int .i64 y) ∧ ∃ q, w' = w1.drewN q := by
            intro w1 hb
            rw [hy]
            exact weightAround _ _ _ _ _ _ _ _ _ (HQ.out.below hb) (HI.out.below hb) HV.out hc1 HM.out d1 (by omega)
          clear hy
          by_cases hb : y = -1000000000000000
          · have HE : Hid (M.isCycB R l = false) := by show _ = _; unfold M.isCycB M.cycB; rw [← HY.out, hb]; simp
            subst hb
            go_enter Try.func29, Try.ntmps29
            go_wp2_with (first | (go_at_call 46; refine (isSquare_b _ _ _ R _ true HS.out HA.out).mono ?_; rintro e w' ⟨rfl, rfl⟩) | (go_at_call 47; refine (areNodes_b _ n _ _ _ _ l _ true HV.out (by omega) HI.out).mono ?_; rintro e w' ⟨rfl, rfl⟩) | (go_at_call 48; refine HC.mono ?_; rintro e w1 ⟨rfl, hb⟩; have HB := Lib.hid hb; clear hb) | (go_at_call 49; refine (HC2 _ HB.out).mono ?_; rintro e w' ⟨rfl, q, rfl⟩))
            go_ret
            exact ⟨retB HE.out.symm, below_drewN HB.out _⟩
          · have hb2 : (y == -1000000000000000) = false := by simpa using hb
            have hb3 : (y != -1000000000000000) = true := by simpa using hb
            have HE : Hid (M.isCycB R l = true) := by
              show _ = _; unfold M.isCycB M.cycB
              rw [← HY.out, HS.out, HR.out, HV.out, ← HQd.out, HL.out, decide_eq_true d1, decide_eq_true hb]; rfl
            clear hb
            go_enter Try.func29, Try.ntmps29
            go_wp2_with (first | (go_at_call 46; refine (isSquare_b _ _ _ R _ true HS.out HA.out).mono ?_; rintro e w' ⟨rfl, rfl⟩) | (go_at_call 47; refine (areNodes_b _ n _ _ _ _ l _ true HV.out (by omega) HI.out).mono ?_; rintro e w' ⟨rfl, rfl⟩) | (go_at_call 48; refine HC.mono ?_; rintro e w1 ⟨rfl, hb⟩; have HB := Lib.hid hb; clear hb) | (go_at_call 49; refine (HC2 _ HB.out).mono ?_; rintro e w' ⟨rfl, q, rfl⟩))
            go_ret
            exact ⟨retB HE.out.symm, below_drewN HB.out _⟩
      · simp only [Bool.not_eq_true] at hv
        have HV := Lib.hid hv
        have HE : Hid (M.isCycB R l = false) := by show _ = _; unfold M.isCycB M.cycB; rw [HR.out, HV.out]; simp
        clear hv
        go_enter Try.func29, Try.ntmps29
        go_wp2_with (first | (go_at_call 46; refine (isSquare_b _ _ _ R _ true HS.out HA.out).mono ?_; rintro e w' ⟨rfl, rfl⟩) | (go_at_call 47; refine (areNodes_b _ n _ _ _ _ l _ false HV.out (by omega) HI.out).mono ?_; rintro e w' ⟨rfl, rfl⟩))
        go_ret
        exact ⟨retB HE.out.symm, Below.refl _ _⟩
  · simp only [Bool.not_eq_true] at hs
    have HS := Lib.hid hs
    have HE : Hid (M.isCycB R l = false) := by show _ = _; unfold M.isCycB; rw [HS.out]; rfl
    clear h h' hs
    go_enter Try.func29, Try.ntmps29
    go_wp2_with (go_at_call 46; refine (isSquare_b _ _ _ R _ false HS.out HA.out).mono ?_; rintro e w' ⟨rfl, rfl⟩)
    go_ret
    exact ⟨retB HE.out.symm, Below.refl _ _⟩
theorem isCycle_b (a : Option Addr) (n cap : Nat) (R : List (List Int)) (a' : Option Addr) (N cap' : Nat) (l : List Int) (w : World) (b : Bool) (hb : M.isCycB R l = b) (h : Mat w a n R) (h' : Ints .i64 w a' N l) (hc1 : N ≤ cap') (hc2 : cap' ≤ maxLen) :
    Calls Try.prog 29 #[.slice a n cap, .slice a' N cap'] w fun e w' => e = .returned (.bool b) ∧ Below w.heap.size w w' := by
  subst hb; exact isCycle _ _ _ _ _ _ _ _ _ h h' hc1 hc2



end Go.Proofs.Ytmhpgnndjagogaa.V

namespace Go.Proofs.Ytmhpgnndjagogaa.V
open Go.RowKit
/-- A ratio and a code. -/
def retQ (r : (Int × Int) × Int) : Ending := .returned (.tuple #[.agg #[.int .i64 r.1.1, .int .i64 r.1.2], .int .i64 r.2])
theorem bel2s {w w1 : World} {o o' : Obj} {i j : Nat} {u v : Value} (hb : Below ((w.alloc o).alloc o').heap.size ((w.alloc o).alloc o') w1) : Below w.heap.size w ((w1.setCell ⟨w.heap.size + 1, i, none⟩ u).setCell ⟨w.heap.size + 1, j, none⟩ v) :=
  ((bel2 hb).setCell (by show w.heap.size ≤ w.heap.size + 1; omega) u).setCell (by show w.heap.size ≤ w.heap.size + 1; omega) v
end Go.Proofs.Ytmhpgnndjagogaa.V

namespace Go.Proofs.Ytmhpgnndjagogaa
namespace M
theorem cycB_t {R : List (List Int)} {l : List Int} (h : cycB R l = true) : 1 ≤ l.length ∧ nodesB R.length l = true ∧ diffB l = true ∧ aroundW R l ≠ -1000000000000000 := by
  unfold cycB at h
  rw [Bool.and_eq_true, Bool.and_eq_true, Bool.and_eq_true, decide_eq_true_eq, decide_eq_true_eq] at h
  exact ⟨h.1.1.1, h.1.1.2, h.1.2, h.2⟩
theorem cycB_bd {R : List (List Int)} {l : List Int} (hs : sqB R = true) (h : cycB R l = true) : 1 ≤ l.length ∧ l.length ≤ 10 ∧ -10000000 ≤ aroundW R l ∧ aroundW R l ≤ 10000000 := by
  obtain ⟨c1, c2, c3, c4⟩ := cycB_t h
  obtain ⟨n1, n2, hA⟩ := sq_sm hs
  have hl := diffB_len c2 c3
  have := arW_sm (A := ent R) hA c2 c1
  rw [around_arW] at c4 ⊢
  unfold Sm at this
  omega
/-- The mean of a list of nodes, and whether it is a cycle. -/
def mean2 (R : List (List Int)) (l : List Int) : (Int × Int) × Bool := if cycB R l then (meanR (aroundW R l) l.length, true) else ((0, 0), false)
end M
namespace V
open Go.RowKit
set_option maxRecDepth 100000 in
set_option maxHeartbeats 1000000 in
theorem sMean (a : Option Addr) (n cap : Nat) (R : List (List Int)) (a' : Option Addr) (N cap' : Nat) (l : List Int) (w : World) (h : Mat w a n R) (hs : M.sqB R = true) (h' : Ints .i64 w a' N l) (hc1 : N ≤ cap') (hc2 : cap' ≤ maxLen) :
    Calls Try.prog 27 #[.slice a n cap, .slice a' N cap'] w fun e w' => e = .returned (.tuple #[.agg #[.int .i64 (M.mean2 R l).1.1, .int .i64 (M.mean2 R l).1.2], .bool (M.mean2 R l).2]) ∧ Below w.heap.size w w' := by
  have HS := Lib.hid (sq_of h hs)
  have HI := Lib.hid h'
  have HL := Lib.hid h'.1
  have HM := Lib.hid hc2
  by_cases hc : M.cycB R l = true
  · obtain ⟨b1, b2, b3, b4⟩ := M.cycB_bd hs hc
    have hNl := h'.1
    have HC : Hid (M.cycleR R l = (M.aroundW R l, true)) := by show _ = _; unfold M.cycleR; rw [if_pos hc]
    have HE : Hid (M.mean2 R l = (M.meanR (M.aroundW R l) (N : Int), true)) := by show _ = _; unfold M.mean2; rw [if_pos hc, hNl]
    rw [hNl] at b1 b2
    obtain ⟨x, hx⟩ : ∃ x, x = M.aroundW R l := ⟨_, rfl⟩
    rw [← hx] at HC HE b3 b4
    clear h hs h' hc hx hc2 hNl
    go_enter Try.func27, Try.ntmps27
    go_wp2_with fail
    refine (sCycle _ _ _ R _ _ _ l _ (HS.out.below (b_alloc _ _)) (HI.out.below (b_alloc _ _)) hc1 HM.out).mono ?_
    rintro e w1 ⟨rfl, hb⟩
    rw [HC.out]
    have hz := hb.size
    simp at hz
    obtain ⟨hcc, hff⟩ := bcell hb
    go_wp2_with fail
    refine (sRatio _ _ _ (by omega) (by omega) (by omega) (by omega) (by omega)).mono ?_
    rintro e w2 ⟨rfl, hb2⟩
    have hbb := hb.trans (hb2.mono hb.size)
    have hz2 := hbb.size
    simp at hz2
    obtain ⟨hc2, hf2⟩ := bcell hbb
    have z1 : w.heap.size < w2.heap.size := by omega
    go_wp2
    exact bodyPost_ret (v := .tuple #[.agg #[.int .i64 (M.ratN x N), .int .i64 (M.ratD x N)], .bool true]) (by simp [results, Try.results27, go_sem, z1, hc2]) rfl ⟨by rw [HE.out]; rfl, bel1s hbb⟩
  · simp only [Bool.not_eq_true] at hc
    have HC : Hid (M.cycleR R l = (0, false)) := by show _ = _; unfold M.cycleR; rw [if_neg (by rw [hc]; exact Bool.false_ne_true)]
    have HE : Hid (M.mean2 R l = ((0, 0), false)) := by show _ = _; unfold M.mean2; rw [if_neg (by rw [hc]; exact Bool.false_ne_true)]
    clear h hs h' hc hc2
    go_enter Try.func27, Try.ntmps27
    go_wp2_with fail
    refine (sCycle _ _ _ R _ _ _ l _ (HS.out.below (b_alloc _ _)) (HI.out.below (b_alloc _ _)) hc1 HM.out).mono ?_
    rintro e w1 ⟨rfl, hb⟩
    rw [HC.out]
    have hz := hb.size
    simp at hz
    obtain ⟨hcc, hff⟩ := bcell hb
    have z1 : w.heap.size < w1.heap.size := by omega
    go_wp2
    exact bodyPost_ret (v := .tuple #[.agg #[.int .i64 0, .int .i64 0], .bool false]) (by simp [results, Try.results27, go_sem, z1, hcc]) rfl ⟨by rw [HE.out], bel1s hb⟩
end V
end Go.Proofs.Ytmhpgnndjagogaa

namespace Go.Proofs.Ytmhpgnndjagogaa.V
open Go.RowKit
abbrev wayC (a' : Option Addr) (N cap' : Nat) : Value := .iface 47 (.slice a' N cap')
set_option maxRecDepth 100000 in
set_option maxHeartbeats 1000000 in
theorem givenMean (a : Option Addr) (n cap : Nat) (R : List (List Int)) (a' : Option Addr) (N cap' : Nat) (l : List Int) (w : World) (h : Mat w a n R) (hs : M.sqB R = true) (hc : M.cycB R l = true) (h' : Ints .i64 w a' N l) (hc1 : N ≤ cap') (hc2 : cap' ≤ maxLen) :
    Calls Try.prog 30 #[.slice a' N cap', .slice a n cap] w fun e w' => e = .returned (.agg #[.int .i64 (M.meanR (M.aroundW R l) l.length).1, .int .i64 (M.meanR (M.aroundW R l) l.length).2]) ∧ Below w.heap.size w w' := by
  have HS := Lib.hid (sq_of h hs)
  have HI := Lib.hid h'
  have HM := Lib.hid hc2
  obtain ⟨b1, b2, b3, b4⟩ := M.cycB_bd hs hc
  obtain ⟨-, c2, -, -⟩ := M.cycB_t hc
  have hNl := h'.1
  rw [h.1] at c2
  have HV := Lib.hid c2
  rw [hNl] at b1 b2 ⊢
  obtain ⟨x, hx⟩ : ∃ x, x = M.aroundW R l := ⟨_, rfl⟩
  have HX := Lib.hid hx
  rw [← hx] at b3 b4 ⊢
  clear h hs h' hc hx hc2 c2 hNl
  go_enter Try.func30, Try.ntmps30
  go_wp2_with fail
  refine (weightAround _ _ _ R _ _ _ l _ (HS.out.below (b_alloc _ _)) (HI.out.below (b_alloc _ _)) HV.out hc1 HM.out b1 (by omega)).mono ?_
  rintro e w' ⟨rfl, qd, rfl⟩
  rw [← HX.out]
  go_wp2_with fail
  refine (reduced _ _ _ (by omega) (by omega) (by omega) (by omega) (by omega)).mono ?_
  rintro e w2 ⟨rfl, hb2⟩
  have hbb := (b_draws (w.alloc (.cells #[.int .i64 0, .int .i64 0] 29)) qd).trans (hb2.mono (b_draws _ _).size)
  have hz2 := hbb.size
  simp at hz2
  obtain ⟨hc2, hf2⟩ := bcell hbb
  have z1 : w.heap.size < w2.heap.size := by omega
  go_wp2
  exact bodyPost_ret (v := .agg #[.int .i64 (M.ratN x N), .int .i64 (M.ratD x N)]) (by simp [results, Try.results30, go_sem, z1, hc2]) rfl ⟨rfl, bel1s hbb⟩
end Go.Proofs.Ytmhpgnndjagogaa.V

namespace Go.Proofs.Ytmhpgnndjagogaa
namespace M
theorem isPotB_t {R : List (List Int)} {a b : Int} {x : List Int} (h : isPotB R a b x = true) : sqB R = true ∧ isRat a b = true := by
  unfold isPotB at h
  rw [Bool.and_eq_true, Bool.and_eq_true] at h
  exact h.1
theorem certB_1 {R : List (List Int)} {a b : Int} {l x : List Int} (h : isPotB R a b x = false) : certB R a b l x = false := by unfold certB; rw [h]; rfl
theorem certB_2 {R : List (List Int)} {a b : Int} {l x : List Int} (h : cycB R l = false) : certB R a b l x = false := by unfold certB; rw [h]; simp
theorem certB_3 {R : List (List Int)} {a b : Int} {l x : List Int} (h : isPotB R a b x = true) (hc : cycB R l = true) : certB R a b l x = decide (meanR (aroundW R l) l.length = (a, b)) := by unfold certB; rw [h, hc]; rfl
end M
namespace V
open Go.RowKit
theorem three (a b c d : Int) : (c = a ∧ d = b) ∨ (c = a ∧ ¬ b = d ∧ (b == d) = false) ∨ (¬ a = c ∧ (a == c) = false) := by
  by_cases h1 : a = c
  · by_cases h2 : b = d
    · exact .inl ⟨h1.symm, h2.symm⟩
    · exact .inr (.inl ⟨h1.symm, h2, by simpa using h2⟩)
  · exact .inr (.inr ⟨h1, by simpa using h1⟩)
set_option maxRecDepth 100000 in
set_option maxHeartbeats 2000000 in
theorem isMeanCertificate (a : Option Addr) (n cap : Nat) (R : List (List Int)) (num den : Int) (a' : Option Addr) (N cap' : Nat) (l : List Int) (a'' : Option Addr) (K cap'' : Nat) (x : List Int) (w0 : World) (h : Mat w0 a n R) (h' : Ints .i64 w0 a' N l) (h'' : Ints .i64 w0 a'' K x) (hc1 : N ≤ cap') (hc2 : cap' ≤ maxLen) :
    Calls Try.prog 12 #[.slice a n cap, .agg #[.int .i64 num, .int .i64 den], .slice a' N cap', .slice a'' K cap''] w0 fun e w' => e = .returned (.bool (M.certB R num den l x)) ∧ Below w0.heap.size w0 w' := by
  obtain ⟨w, hwd⟩ : ∃ w, w = w0.alloc (rbox num den) := ⟨_, rfl⟩
  have HX : Hid (Boxed w0 w num den) := by show Boxed _ _ _ _; rw [hwd]; exact boxed _ _ _
  have HA : Hid (Mat w a n R) := h.below HX.out.below
  have HI : Hid (Ints .i64 w a' N l) := h'.below HX.out.below
  have HJ : Hid (Ints .i64 w a'' K x) := h''.below HX.out.below
  have HM := Lib.hid hc2
  have HZ := Lib.hid HX.out.size
  obtain ⟨c0, c1⟩ := HX.out.cells (Below.refl _ _)
  obtain ⟨b, hb⟩ : ∃ b, b = M.isPotB R num den x := ⟨_, rfl⟩
  have HP := Lib.hid hb
  cases b with
  | false =>
    have HE := Lib.hid (M.certB_1 (l := l) hb.symm)
    clear h h' h'' hb hc2
    go_enter Try.func12, Try.ntmps12
    go_wp2_with fail
    simp only [← hwd] at *
    clear hwd
    refine (isPotential _ _ _ R _ _ _ _ _ x _ HA.out HJ.out).mono ?_
    rintro e w1 ⟨rfl, hb1⟩
    rw [← HP.out]
    have HB1 := Lib.hid (HX.out.trans hb1)
    clear hb1
    go_wp2
    go_ret
    exact ⟨retB HE.out.symm, HB1.out⟩
  | true =>
    obtain ⟨hs, hr⟩ := M.isPotB_t hb.symm
    have HS := Lib.hid hs
    obtain ⟨c, hc⟩ : ∃ c, c = M.cycB R l := ⟨_, rfl⟩
    have HIC : Hid (M.isCycB R l = c) := by show _ = _; unfold M.isCycB; rw [hs, ← hc]; rfl
    cases c with
    | false =>
      have HE := Lib.hid (M.certB_2 (a := num) (b := den) (x := x) hc.symm)
      clear h h' h'' hb hc2 hs hr hc
      go_enter Try.func12, Try.ntmps12
      go_wp2_with fail
      simp only [← hwd] at *
      clear hwd
      refine (isPotential _ _ _ R _ _ _ _ _ x _ HA.out HJ.out).mono ?_
      rintro e w1 ⟨rfl, hb1⟩
      rw [← HP.out]
      have HB1 := Lib.hid hb1
      clear hb1
      go_wp2_with fail
      refine (isCycle_b _ _ _ R _ _ _ l _ false HIC.out (HA.out.below HB1.out) (HI.out.below HB1.out) hc1 HM.out).mono ?_
      rintro e w2 ⟨rfl, hb2⟩
      have HB2 := Lib.hid (HX.out.trans (bnext HB1.out hb2))
      clear hb2
      go_wp2
      go_ret
      exact ⟨retB HE.out.symm, HB2.out⟩
    | true =>
      have HC := Lib.hid hc.symm
      obtain ⟨m, hm⟩ : ∃ m, m = M.meanR (M.aroundW R l) l.length := ⟨_, rfl⟩
      have HMn := Lib.hid hm
      have HE : Hid (M.certB R num den l x = decide (m = (num, den))) := by show _ = _; rw [M.certB_3 hb.symm hc.symm, hm]
      clear h h' h'' hb hc2 hs hr hc hm
      obtain ⟨m1, m2⟩ := m
      have HE2 : Hid ((m1 == num && m2 == den) = M.certB R num den l x) := by
        show _ = _
        rw [HE.out, Bool.eq_iff_iff, Bool.and_eq_true, decide_eq_true_eq, beq_iff_eq, beq_iff_eq, Prod.mk.injEq]
      rcases three m1 m2 num den with ⟨rfl, rfl⟩ | ⟨rfl, e2, e3⟩ | ⟨e2, e3⟩
      all_goals
        go_enter Try.func12, Try.ntmps12
        go_wp2_with fail
        simp only [← hwd] at *
        clear hwd
        refine (isPotential _ _ _ R _ _ _ _ _ x _ HA.out HJ.out).mono ?_
        rintro e w1 ⟨rfl, hb1⟩
        rw [← HP.out]
        have HB1 := Lib.hid hb1
        clear hb1
        go_wp2_with fail
        refine (isCycle_b _ _ _ R _ _ _ l _ true HIC.out (HA.out.below HB1.out) (HI.out.below HB1.out) hc1 HM.out).mono ?_
        rintro e w2 ⟨rfl, hb2⟩
        have HB2 := Lib.hid (bnext HB1.out hb2)
        clear hb2
        obtain ⟨p0, p1⟩ := HX.out.cells HB2.out
        have hlt : w0.heap.size < w2.heap.size := by have := HB2.out.size; have := HZ.out; omega
        go_wp2
        go_region_held3 (fun w' => w'.cell? ⟨w0.heap.size, 0, none⟩ = some (.int .i64 num) ∧ w'.cell? ⟨w0.heap.size, 1, none⟩ = some (.int .i64 den) ∧ Below w2.heap.size w2 w') (first | exact ⟨p0, p1, (Below.refl _ _).drew⟩ | exact V.keep3 hlt ‹_ ∧ _ ∧ Below _ _ _› hb)
          (first | (go_at_call 30; refine (givenMean _ _ _ R _ _ _ l _ (HA.out.below (HB2.out.trans ((V.low3 ‹_ ∧ _ ∧ Below _ _ _›).mono HB2.out.size))) HS.out HC.out (HI.out.below (HB2.out.trans ((V.low3 ‹_ ∧ _ ∧ Below _ _ _›).mono HB2.out.size))) hc1 HM.out).mono ?_; rintro e w3 ⟨rfl, hb⟩; rw [← HMn.out]))
        all_goals
          have hb3 : Below w2.heap.size w2 w3 := V.low3 (by assumption)
          have HB3 := Lib.hid (HX.out.trans (HB2.out.trans (hb3.mono HB2.out.size)))
          clear hb hb3
          go_wp2
          all_goals
            go_ret
            refine ⟨retB ?_, HB3.out⟩
            rw [← HE2.out]
            try simp_all
set_option maxRecDepth 100000 in
set_option maxHeartbeats 2000000 in
theorem sIsMeanCertificate (a : Option Addr) (n cap : Nat) (R : List (List Int)) (num den : Int) (a' : Option Addr) (N cap' : Nat) (l : List Int) (a'' : Option Addr) (K cap'' : Nat) (x : List Int) (w0 : World) (h : Mat w0 a n R) (h' : Ints .i64 w0 a' N l) (h'' : Ints .i64 w0 a'' K x) (hc1 : N ≤ cap') (hc2 : cap' ≤ maxLen) :
    Calls Try.prog 8 #[.slice a n cap, .agg #[.int .i64 num, .int .i64 den], .slice a' N cap', .slice a'' K cap''] w0 fun e w' => e = .returned (.bool (M.certB R num den l x)) ∧ Below w0.heap.size w0 w' := by
  obtain ⟨w, hwd⟩ : ∃ w, w = w0.alloc (rbox num den) := ⟨_, rfl⟩
  have HX : Hid (Boxed w0 w num den) := by show Boxed _ _ _ _; rw [hwd]; exact boxed _ _ _
  have HA : Hid (Mat w a n R) := h.below HX.out.below
  have HI : Hid (Ints .i64 w a' N l) := h'.below HX.out.below
  have HJ : Hid (Ints .i64 w a'' K x) := h''.below HX.out.below
  have HM := Lib.hid hc2
  have HZ := Lib.hid HX.out.size
  obtain ⟨c0, c1⟩ := HX.out.cells (Below.refl _ _)
  obtain ⟨b, hb⟩ : ∃ b, b = M.isPotB R num den x := ⟨_, rfl⟩
  have HP := Lib.hid hb
  cases b with
  | false =>
    have HE := Lib.hid (M.certB_1 (l := l) hb.symm)
    clear h h' h'' hb hc2
    go_enter Try.func8, Try.ntmps8
    go_wp2_with fail
    simp only [← hwd] at *
    clear hwd
    refine (sIsPotential _ _ _ R _ _ _ _ _ x _ HA.out HJ.out).mono ?_
    rintro e w1 ⟨rfl, hb1⟩
    rw [← HP.out]
    have HB1 := Lib.hid (HX.out.trans hb1)
    clear hb1
    go_wp2
    go_ret
    exact ⟨retB HE.out.symm, HB1.out⟩
  | true =>
    obtain ⟨hs, hr⟩ := M.isPotB_t hb.symm
    have HS := Lib.hid hs
    by_cases hc : M.cycB R l = true
    · obtain ⟨m, hm⟩ : ∃ m, m = M.meanR (M.aroundW R l) l.length := ⟨_, rfl⟩
      have HC : Hid (M.mean2 R l = (m, true)) := by show _ = _; unfold M.mean2; rw [if_pos hc, hm]
      have HE : Hid (M.certB R num den l x = decide (m = (num, den))) := by show _ = _; rw [M.certB_3 hb.symm hc, hm]
      clear h h' h'' hb hc2 hs hr hc hm
      obtain ⟨m1, m2⟩ := m
      have HE2 : Hid ((m1 == num && m2 == den) = M.certB R num den l x) := by
        show _ = _
        rw [HE.out, Bool.eq_iff_iff, Bool.and_eq_true, decide_eq_true_eq, beq_iff_eq, beq_iff_eq, Prod.mk.injEq]
      go_enter Try.func8, Try.ntmps8
      go_wp2_with fail
      simp only [← hwd] at *
      clear hwd
      refine (sIsPotential _ _ _ R _ _ _ _ _ x _ HA.out HJ.out).mono ?_
      rintro e w1 ⟨rfl, hb1⟩
      rw [← HP.out]
      have HB1 := Lib.hid hb1
      clear hb1
      go_wp2_with fail
      refine (sMean _ _ _ R _ _ _ l _ (HA.out.below HB1.out) HS.out (HI.out.below HB1.out) hc1 HM.out).mono ?_
      rintro e w2 ⟨rfl, hb2⟩
      rw [HC.out]
      have HB2 := Lib.hid (bnext HB1.out hb2)
      obtain ⟨p0, p1⟩ := HX.out.cells HB2.out
      have hlt : w0.heap.size < w2.heap.size := by have := HB2.out.size; have := HZ.out; omega
      clear hb2
      go_wp2
      all_goals
        go_ret
        refine ⟨retB ?_, by first | exact (HX.out.trans HB2.out).alloc (HX.out.trans HB2.out).size _ | exact HX.out.trans HB2.out⟩
        rw [← HE2.out]
        try simp_all
    · simp only [Bool.not_eq_true] at hc
      have HC : Hid (M.mean2 R l = ((0, 0), false)) := by show _ = _; unfold M.mean2; rw [if_neg (by rw [hc]; exact Bool.false_ne_true)]
      have HE := Lib.hid (M.certB_2 (a := num) (b := den) (x := x) hc)
      clear h h' h'' hb hc2 hs hr hc
      go_enter Try.func8, Try.ntmps8
      go_wp2_with fail
      simp only [← hwd] at *
      clear hwd
      refine (sIsPotential _ _ _ R _ _ _ _ _ x _ HA.out HJ.out).mono ?_
      rintro e w1 ⟨rfl, hb1⟩
      rw [← HP.out]
      have HB1 := Lib.hid hb1
      clear hb1
      go_wp2_with fail
      refine (sMean _ _ _ R _ _ _ l _ (HA.out.below HB1.out) HS.out (HI.out.below HB1.out) hc1 HM.out).mono ?_
      rintro e w2 ⟨rfl, hb2⟩
      rw [HC.out]
      have HB2 := Lib.hid (bnext HB1.out hb2)
      obtain ⟨p0, p1⟩ := HX.out.cells HB2.out
      clear hb2
      go_wp2
      go_ret
      exact ⟨retB HE.out.symm, by first | exact (HX.out.trans HB2.out).alloc (HX.out.trans HB2.out).size _ | exact HX.out.trans HB2.out⟩
end V
end Go.Proofs.Ytmhpgnndjagogaa
