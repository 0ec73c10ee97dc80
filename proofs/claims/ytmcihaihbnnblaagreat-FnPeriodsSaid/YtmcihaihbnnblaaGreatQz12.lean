/- Texts laid together: ShX, Pth6, Mean3. -/
import Derived.Test.YtmcihaihbnnblaaGreatQz11
import Derived.Test.YtmcihaihbnnblaaGreatQz9
import Derived.Deep.RegionWith
import Derived.Deep.RegionHeld3
set_option linter.unusedSimpArgs false
set_option linter.unusedVariables false
set_option linter.unusedSectionVars false
namespace Go.Proofs.YtmcihaihbnnblaaGreat
namespace M
theorem shiftRes_ok (R : List (List Int)) (a b : Int) : okM (shiftRes R a b).1 := by
  unfold shiftRes
  split
  · split
    · next h => exact .inr h
    · exact .inl rfl
  · exact .inl rfl
theorem potRes_len (R : List (List Int)) (a b : Int) : (potRes R a b).1.length ≤ 10 := by
  unfold potRes
  split
  · split
    · split
      · next h => exact (isVec_t h).2.1
      · simp
    · simp
  · simp
theorem bestRes_len (R : List (List Int)) : (bestRes R).1.length ≤ 10 := by
  unfold bestRes
  split
  · split
    · next h1 h2 => exact (best_cyc h1 h2).2.2.2
    · simp
  · simp
end M
namespace V
open Go.RowKit
theorem low3 {w1 w2 : World} {P Q : Prop} (h : P ∧ Q ∧ Below w1.heap.size w1 w2) : Below w1.heap.size w1 w2 := h.2.2
theorem keep3 {w0 w1 w2 : World} {b i j : Nat} {x y : Value} (hb0 : b < w0.heap.size) (h : w1.cell? ⟨b, i, none⟩ = some x ∧ w1.cell? ⟨b, j, none⟩ = some y ∧ Below w0.heap.size w0 w1) (hb : Below w1.heap.size w1 w2) : w2.cell? ⟨b, i, none⟩ = some x ∧ w2.cell? ⟨b, j, none⟩ = some y ∧ Below w0.heap.size w0 w2 := by
  have := h.2.2.size
  exact ⟨(hb.cell (p := ⟨b, i, none⟩) (by show b < _; omega)).trans h.1, (hb.cell (p := ⟨b, j, none⟩) (by show b < _; omega)).trans h.2.1, h.2.2.trans (hb.mono this)⟩
end V
end Go.Proofs.YtmcihaihbnnblaaGreat

namespace Go.Proofs.YtmcihaihbnnblaaGreat.V
open Go.RowKit

/-- Two integers are returned, and nothing that was there is changed. -/
def IPost (r : Int × Int) (w : World) (e : Ending) (w' : World) : Prop := e = .returned (.tuple #[.int .i64 r.1, .int .i64 r.2]) ∧ Below w.heap.size w w'
theorem IPost.mk {r : Int × Int} {x y : Int} {w w' : World} (h : r = (x, y)) (hb : Below w.heap.size w w') : IPost r w (.returned (.tuple #[.int .i64 x, .int .i64 y])) w' := by
  subst h; exact ⟨rfl, hb⟩
def BPost (b : Bool) (w : World) (e : Ending) (w' : World) : Prop := e = .returned (.bool b) ∧ Below w.heap.size w w'


end Go.Proofs.YtmcihaihbnnblaaGreat.V

namespace Go.Proofs.YtmcihaihbnnblaaGreat.V
open Go.RowKit

set_option maxRecDepth 100000 in
set_option maxHeartbeats 1000000 in
theorem isCycle (a : Option Addr) (n cap : Nat) (R : List (List Int)) (a' : Option Addr) (N cap' : Nat) (l : List Int) (w : World) (h : Mat w a n R) (h' : Ints .i64 w a' N l) (hc1 : N ≤ cap') (hc2 : cap' ≤ maxLen) :
    Calls Tryz.prog 40 #[.slice a n cap, .slice a' N cap'] w (BPost (M.isCycB R l) w) := by
  have HM := Lib.hid hc2
  have hm := h'.2.1
  unfold maxLen at hc2 hm
  have HA := Lib.hid h
  have HI := Lib.hid h'
  have HL := Lib.hid h'.1
  have HR := Lib.hid h.1
  by_cases hs : M.sqB R = true
  · have HS := Lib.hid hs
    have HQ := Lib.hid (sq_of h hs)
    obtain ⟨-, -, -, n1, n2⟩ := sq_of h hs
    clear h h' hs
    by_cases h0 : N = 0
    · subst h0
      have HE : Hid (M.isCycB R l = false) := by show _ = _; unfold M.isCycB M.cycB; rw [HL.out]; simp
      go_enter Tryz.func40, Tryz.ntmps40
      go_wp2_with (go_at_call 118; refine (isSquare_b _ _ _ R _ true HS.out HA.out).mono ?_; rintro e w' ⟨rfl, rfl⟩)
      go_ret
      exact ⟨retB HE.out.symm, Below.refl _ _⟩
    · have d1 : 1 ≤ N := by omega
      by_cases hv : M.nodesB n l = true
      · have HV := Lib.hid hv
        clear hv
        obtain ⟨q, hq⟩ : ∃ q, q = M.diffB l := ⟨_, rfl⟩
        have HQd := Lib.hid hq
        have HC : Calls Tryz.prog 119 #[.slice a' N cap'] w fun e w' => e = .returned (.bool q) ∧ Below w.heap.size w w' := by
          rw [hq]
          exact areDifferent n _ _ _ _ _ HI.out HV.out n2
        clear hq
        cases q with
        | false =>
          have HE : Hid (M.isCycB R l = false) := by show _ = _; unfold M.isCycB M.cycB; rw [← HQd.out]; simp
          go_enter Tryz.func40, Tryz.ntmps40
          go_wp2_with (first | (go_at_call 118; refine (isSquare_b _ _ _ R _ true HS.out HA.out).mono ?_; rintro e w' ⟨rfl, rfl⟩) | (go_at_call 107; refine (areNodes_b _ n _ _ _ _ l _ true HV.out (by omega) HI.out).mono ?_; rintro e w' ⟨rfl, rfl⟩) | (go_at_call 119; refine HC.mono ?_; rintro e w1 ⟨rfl, hb⟩; have HB := Lib.hid hb; clear hb))
          go_ret
          exact ⟨retB HE.out.symm, HB.out⟩
        | true =>
          have hN : N ≤ n := by have := M.diffB_len HV.out HQd.out.symm; rw [HL.out] at this; exact this
          obtain ⟨y, hy⟩ : ∃ y, y = M.aroundW R l := ⟨_, rfl⟩
          have HY := Lib.hid hy
          have HC2 : ∀ w1, Below w.heap.size w w1 → Calls Tryz.prog 120 #[.slice a n cap, .slice a' N cap'] w1 fun e w' => e = .returned (.int .i64 y) ∧ ∃ q, w' = w1.drewN q := by
            intro w1 hb
            rw [hy]
            exact weightAround _ _ _ _ _ _ _ _ _ (HQ.out.below hb) (HI.out.below hb) HV.out hc1 HM.out d1 (by omega)
          clear hy
          by_cases hb : y = -1000000000000000
          · have HE : Hid (M.isCycB R l = false) := by show _ = _; unfold M.isCycB M.cycB; rw [← HY.out, hb]; simp
            subst hb
            go_enter Tryz.func40, Tryz.ntmps40
            go_wp2_with (first | (go_at_call 118; refine (isSquare_b _ _ _ R _ true HS.out HA.out).mono ?_; rintro e w' ⟨rfl, rfl⟩) | (go_at_call 107; refine (areNodes_b _ n _ _ _ _ l _ true HV.out (by omega) HI.out).mono ?_; rintro e w' ⟨rfl, rfl⟩) | (go_at_call 119; refine HC.mono ?_; rintro e w1 ⟨rfl, hb⟩; have HB := Lib.hid hb; clear hb) | (go_at_call 120; refine (HC2 _ HB.out).mono ?_; rintro e w' ⟨rfl, q, rfl⟩))
            go_ret
            exact ⟨retB HE.out.symm, below_drewN HB.out _⟩
          · have hb2 : (y == -1000000000000000) = false := by simpa using hb
            have hb3 : (y != -1000000000000000) = true := by simpa using hb
            have HE : Hid (M.isCycB R l = true) := by
              show _ = _; unfold M.isCycB M.cycB
              rw [← HY.out, HS.out, HR.out, HV.out, ← HQd.out, HL.out, decide_eq_true d1, decide_eq_true hb]; rfl
            clear hb
            go_enter Tryz.func40, Tryz.ntmps40
            go_wp2_with (first | (go_at_call 118; refine (isSquare_b _ _ _ R _ true HS.out HA.out).mono ?_; rintro e w' ⟨rfl, rfl⟩) | (go_at_call 107; refine (areNodes_b _ n _ _ _ _ l _ true HV.out (by omega) HI.out).mono ?_; rintro e w' ⟨rfl, rfl⟩) | (go_at_call 119; refine HC.mono ?_; rintro e w1 ⟨rfl, hb⟩; have HB := Lib.hid hb; clear hb) | (go_at_call 120; refine (HC2 _ HB.out).mono ?_; rintro e w' ⟨rfl, q, rfl⟩))
            go_ret
            exact ⟨retB HE.out.symm, below_drewN HB.out _⟩
      · simp only [Bool.not_eq_true] at hv
        have HV := Lib.hid hv
        have HE : Hid (M.isCycB R l = false) := by show _ = _; unfold M.isCycB M.cycB; rw [HR.out, HV.out]; simp
        clear hv
        go_enter Tryz.func40, Tryz.ntmps40
        go_wp2_with (first | (go_at_call 118; refine (isSquare_b _ _ _ R _ true HS.out HA.out).mono ?_; rintro e w' ⟨rfl, rfl⟩) | (go_at_call 107; refine (areNodes_b _ n _ _ _ _ l _ false HV.out (by omega) HI.out).mono ?_; rintro e w' ⟨rfl, rfl⟩))
        go_ret
        exact ⟨retB HE.out.symm, Below.refl _ _⟩
  · simp only [Bool.not_eq_true] at hs
    have HS := Lib.hid hs
    have HE : Hid (M.isCycB R l = false) := by show _ = _; unfold M.isCycB; rw [HS.out]; rfl
    clear h h' hs
    go_enter Tryz.func40, Tryz.ntmps40
    go_wp2_with (go_at_call 118; refine (isSquare_b _ _ _ R _ false HS.out HA.out).mono ?_; rintro e w' ⟨rfl, rfl⟩)
    go_ret
    exact ⟨retB HE.out.symm, Below.refl _ _⟩
theorem isCycle_b (a : Option Addr) (n cap : Nat) (R : List (List Int)) (a' : Option Addr) (N cap' : Nat) (l : List Int) (w : World) (b : Bool) (hb : M.isCycB R l = b) (h : Mat w a n R) (h' : Ints .i64 w a' N l) (hc1 : N ≤ cap') (hc2 : cap' ≤ maxLen) :
    Calls Tryz.prog 40 #[.slice a n cap, .slice a' N cap'] w fun e w' => e = .returned (.bool b) ∧ Below w.heap.size w w' := by
  subst hb; exact isCycle _ _ _ _ _ _ _ _ _ h h' hc1 hc2



end Go.Proofs.YtmcihaihbnnblaaGreat.V

namespace Go.Proofs.YtmcihaihbnnblaaGreat.V
open Go.RowKit
/-- A ratio and a code. -/
def retQ (r : (Int × Int) × Int) : Ending := .returned (.tuple #[.agg #[.int .i64 r.1.1, .int .i64 r.1.2], .int .i64 r.2])
theorem bel2s {w w1 : World} {o o' : Obj} {i j : Nat} {u v : Value} (hb : Below ((w.alloc o).alloc o').heap.size ((w.alloc o).alloc o') w1) : Below w.heap.size w ((w1.setCell ⟨w.heap.size + 1, i, none⟩ u).setCell ⟨w.heap.size + 1, j, none⟩ v) :=
  ((bel2 hb).setCell (by show w.heap.size ≤ w.heap.size + 1; omega) u).setCell (by show w.heap.size ≤ w.heap.size + 1; omega) v
set_option maxRecDepth 100000 in
set_option maxHeartbeats 400000 in
theorem ratioChecked (n d : Int) (w : World) :
    Calls Tryz.prog 172 #[.agg #[.int .i64 n, .int .i64 d]] w fun e w' => e = retQ (M.lim (n, d)) ∧ Below w.heap.size w w' := by
  by_cases hr : M.isRat n d = true
  · have HE : Hid (M.lim (n, d) = ((n, d), 0)) := by show _ = _; unfold M.lim; rw [if_pos hr]
    go_enter Tryz.func172, Tryz.ntmps172
    go_wp2_with fail
    refine (isRatio_b _ _ true hr _).mono ?_
    rintro e w1 ⟨rfl, hb⟩
    obtain ⟨hc, hf⟩ := bcell hb
    have hz := hb.size
    simp at hz
    have z1 : w.heap.size < w1.heap.size := by omega
    have z2 : w.heap.size + 1 < w1.heap.size := by omega
    go_wp2
    exact bodyPost_ret (v := .tuple #[.agg #[.int .i64 n, .int .i64 d], .int .i64 0]) (by simp [results, Tryz.results172, go_sem, z1, z2, hc]) rfl ⟨by rw [HE.out]; rfl, bel2s hb⟩
  · simp only [Bool.not_eq_true] at hr
    have HE : Hid (M.lim (n, d) = ((0, 0), 3)) := by show _ = _; unfold M.lim; rw [if_neg (by rw [hr]; exact Bool.false_ne_true)]
    go_enter Tryz.func172, Tryz.ntmps172
    go_wp2_with fail
    refine (isRatio_b _ _ false hr _).mono ?_
    rintro e w1 ⟨rfl, hb⟩
    obtain ⟨hc, hf⟩ := bcell hb
    have hz := hb.size
    simp at hz
    have z1 : w.heap.size < w1.heap.size := by omega
    have z2 : w.heap.size + 1 < w1.heap.size := by omega
    go_wp2
    exact bodyPost_ret (v := .tuple #[.agg #[.int .i64 0, .int .i64 0], .int .i64 3]) (by simp [results, Tryz.results172, go_sem, z1, z2, hc]) rfl ⟨by rw [HE.out]; rfl, bel2s hb⟩
set_option maxRecDepth 100000 in
set_option maxHeartbeats 400000 in
theorem sResultR (n d : Int) (w : World) :
    Calls Tryz.prog 195 #[.agg #[.int .i64 n, .int .i64 d]] w fun e w' => e = retQ (M.lim (n, d)) ∧ Below w.heap.size w w' := by
  by_cases hr : M.isRat n d = true
  · have HE : Hid (M.lim (n, d) = ((n, d), 0)) := by show _ = _; unfold M.lim; rw [if_pos hr]
    go_enter Tryz.func195, Tryz.ntmps195
    go_wp2_with fail
    refine (sIsRatio_b _ _ true hr _).mono ?_
    rintro e w1 ⟨rfl, hb⟩
    obtain ⟨hc, hf⟩ := bcell hb
    have hz := hb.size
    simp at hz
    have z1 : w.heap.size < w1.heap.size := by omega
    have z2 : w.heap.size + 1 < w1.heap.size := by omega
    go_wp2
    exact bodyPost_ret (v := .tuple #[.agg #[.int .i64 n, .int .i64 d], .int .i64 0]) (by simp [results, Tryz.results195, go_sem, z1, z2, hc]) rfl ⟨by rw [HE.out]; rfl, bel2s hb⟩
  · simp only [Bool.not_eq_true] at hr
    have HE : Hid (M.lim (n, d) = ((0, 0), 3)) := by show _ = _; unfold M.lim; rw [if_neg (by rw [hr]; exact Bool.false_ne_true)]
    go_enter Tryz.func195, Tryz.ntmps195
    go_wp2_with fail
    refine (sIsRatio_b _ _ false hr _).mono ?_
    rintro e w1 ⟨rfl, hb⟩
    obtain ⟨hc, hf⟩ := bcell hb
    have hz := hb.size
    simp at hz
    have z1 : w.heap.size < w1.heap.size := by omega
    have z2 : w.heap.size + 1 < w1.heap.size := by omega
    go_wp2
    exact bodyPost_ret (v := .tuple #[.agg #[.int .i64 0, .int .i64 0], .int .i64 3]) (by simp [results, Tryz.results195, go_sem, z1, z2, hc]) rfl ⟨by rw [HE.out]; rfl, bel2s hb⟩
end Go.Proofs.YtmcihaihbnnblaaGreat.V

namespace Go.Proofs.YtmcihaihbnnblaaGreat
namespace M
theorem cycB_t {R : List (List Int)} {l : List Int} (h : cycB R l = true) : 1 ≤ l.length ∧ nodesB R.length l = true ∧ diffB l = true ∧ aroundW R l ≠ -1000000000000000 := by
  unfold cycB at h
  rw [Bool.and_eq_true, Bool.and_eq_true, Bool.and_eq_true, decide_eq_true_eq, decide_eq_true_eq] at h
  exact ⟨h.1.1.1, h.1.1.2, h.1.2, h.2⟩
theorem cycB_bd {R : List (List Int)} {l : List Int} (hs : sqB R = true) (h : cycB R l = true) : 1 ≤ l.length ∧ l.length ≤ 10 ∧ -10000000 ≤ aroundW R l ∧ aroundW R l ≤ 10000000 := by
  obtain ⟨c1, c2, c3, c4⟩ := cycB_t h
  obtain ⟨n1, n2, hA⟩ := sq_sm hs
  have hl := diffB_len c2 c3
  have := arW_sm (A := ent R) hA c2 c1
  rw [around_arW] at c4 ⊢
  unfold Sm at this
  omega
/-- The mean of a list of nodes, and whether it is a cycle. -/
def mean2 (R : List (List Int)) (l : List Int) : (Int × Int) × Bool := if cycB R l then (meanR (aroundW R l) l.length, true) else ((0, 0), false)
end M
namespace V
open Go.RowKit
set_option maxRecDepth 100000 in
set_option maxHeartbeats 1000000 in
theorem sMean (a : Option Addr) (n cap : Nat) (R : List (List Int)) (a' : Option Addr) (N cap' : Nat) (l : List Int) (w : World) (h : Mat w a n R) (hs : M.sqB R = true) (h' : Ints .i64 w a' N l) (hc1 : N ≤ cap') (hc2 : cap' ≤ maxLen) :
    Calls Tryz.prog 83 #[.slice a n cap, .slice a' N cap'] w fun e w' => e = .returned (.tuple #[.agg #[.int .i64 (M.mean2 R l).1.1, .int .i64 (M.mean2 R l).1.2], .bool (M.mean2 R l).2]) ∧ Below w.heap.size w w' := by
  have HS := Lib.hid (sq_of h hs)
  have HI := Lib.hid h'
  have HL := Lib.hid h'.1
  have HM := Lib.hid hc2
  by_cases hc : M.cycB R l = true
  · obtain ⟨b1, b2, b3, b4⟩ := M.cycB_bd hs hc
    have hNl := h'.1
    have HC : Hid (M.cycleR R l = (M.aroundW R l, true)) := by show _ = _; unfold M.cycleR; rw [if_pos hc]
    have HE : Hid (M.mean2 R l = (M.meanR (M.aroundW R l) (N : Int), true)) := by show _ = _; unfold M.mean2; rw [if_pos hc, hNl]
    rw [hNl] at b1 b2
    obtain ⟨x, hx⟩ : ∃ x, x = M.aroundW R l := ⟨_, rfl⟩
    rw [← hx] at HC HE b3 b4
    clear h hs h' hc hx hc2 hNl
    go_enter Tryz.func83, Tryz.ntmps83
    go_wp2_with fail
    refine (sCycle _ _ _ R _ _ _ l _ (HS.out.below (b_alloc _ _)) (HI.out.below (b_alloc _ _)) hc1 HM.out).mono ?_
    rintro e w1 ⟨rfl, hb⟩
    rw [HC.out]
    have hz := hb.size
    simp at hz
    obtain ⟨hcc, hff⟩ := bcell hb
    go_wp2_with fail
    refine (sRatio _ _ _ (by omega) (by omega) (by omega) (by omega) (by omega)).mono ?_
    rintro e w2 ⟨rfl, hb2⟩
    have hbb := hb.trans (hb2.mono hb.size)
    have hz2 := hbb.size
    simp at hz2
    obtain ⟨hc2, hf2⟩ := bcell hbb
    have z1 : w.heap.size < w2.heap.size := by omega
    go_wp2
    exact bodyPost_ret (v := .tuple #[.agg #[.int .i64 (M.ratN x N), .int .i64 (M.ratD x N)], .bool true]) (by simp [results, Tryz.results83, go_sem, z1, hc2]) rfl ⟨by rw [HE.out]; rfl, bel1s hbb⟩
  · simp only [Bool.not_eq_true] at hc
    have HC : Hid (M.cycleR R l = (0, false)) := by show _ = _; unfold M.cycleR; rw [if_neg (by rw [hc]; exact Bool.false_ne_true)]
    have HE : Hid (M.mean2 R l = ((0, 0), false)) := by show _ = _; unfold M.mean2; rw [if_neg (by rw [hc]; exact Bool.false_ne_true)]
    clear h hs h' hc hc2
    go_enter Tryz.func83, Tryz.ntmps83
    go_wp2_with fail
    refine (sCycle _ _ _ R _ _ _ l _ (HS.out.below (b_alloc _ _)) (HI.out.below (b_alloc _ _)) hc1 HM.out).mono ?_
    rintro e w1 ⟨rfl, hb⟩
    rw [HC.out]
    have hz := hb.size
    simp at hz
    obtain ⟨hcc, hff⟩ := bcell hb
    have z1 : w.heap.size < w1.heap.size := by omega
    go_wp2
    exact bodyPost_ret (v := .tuple #[.agg #[.int .i64 0, .int .i64 0], .bool false]) (by simp [results, Tryz.results83, go_sem, z1, hcc]) rfl ⟨by rw [HE.out], bel1s hb⟩
end V
end Go.Proofs.YtmcihaihbnnblaaGreat

namespace Go.Proofs.YtmcihaihbnnblaaGreat.V
open Go.RowKit
abbrev wayC (a' : Option Addr) (N cap' : Nat) : Value := .iface 124 (.slice a' N cap')
set_option maxRecDepth 100000 in
set_option maxHeartbeats 1000000 in
theorem givenMean (a : Option Addr) (n cap : Nat) (R : List (List Int)) (a' : Option Addr) (N cap' : Nat) (l : List Int) (w : World) (h : Mat w a n R) (hs : M.sqB R = true) (hc : M.cycB R l = true) (h' : Ints .i64 w a' N l) (hc1 : N ≤ cap') (hc2 : cap' ≤ maxLen) :
    Calls Tryz.prog 140 #[.slice a' N cap', .slice a n cap] w fun e w' => e = .returned (.agg #[.int .i64 (M.meanR (M.aroundW R l) l.length).1, .int .i64 (M.meanR (M.aroundW R l) l.length).2]) ∧ Below w.heap.size w w' := by
  have HS := Lib.hid (sq_of h hs)
  have HI := Lib.hid h'
  have HM := Lib.hid hc2
  obtain ⟨b1, b2, b3, b4⟩ := M.cycB_bd hs hc
  obtain ⟨-, c2, -, -⟩ := M.cycB_t hc
  have hNl := h'.1
  rw [h.1] at c2
  have HV := Lib.hid c2
  rw [hNl] at b1 b2 ⊢
  obtain ⟨x, hx⟩ : ∃ x, x = M.aroundW R l := ⟨_, rfl⟩
  have HX := Lib.hid hx
  rw [← hx] at b3 b4 ⊢
  clear h hs h' hc hx hc2 c2 hNl
  go_enter Tryz.func140, Tryz.ntmps140
  go_wp2_with fail
  refine (weightAround _ _ _ R _ _ _ l _ (HS.out.below (b_alloc _ _)) (HI.out.below (b_alloc _ _)) HV.out hc1 HM.out b1 (by omega)).mono ?_
  rintro e w' ⟨rfl, qd, rfl⟩
  rw [← HX.out]
  go_wp2_with fail
  refine (reduced _ _ _ (by omega) (by omega) (by omega) (by omega) (by omega)).mono ?_
  rintro e w2 ⟨rfl, hb2⟩
  have hbb := (b_draws (w.alloc (.cells #[.int .i64 0, .int .i64 0] 30)) qd).trans (hb2.mono (b_draws _ _).size)
  have hz2 := hbb.size
  simp at hz2
  obtain ⟨hc2, hf2⟩ := bcell hbb
  have z1 : w.heap.size < w2.heap.size := by omega
  go_wp2
  exact bodyPost_ret (v := .agg #[.int .i64 (M.ratN x N), .int .i64 (M.ratD x N)]) (by simp [results, Tryz.results140, go_sem, z1, hc2]) rfl ⟨rfl, bel1s hbb⟩
theorem assert_given (v : Value) (W : World) : (Instr.typeAssert (.iface 124 v) 149 124 true).run Tryz.prog W = .ok (.tuple #[v, .bool true]) W := by kernel_rfl
attribute [local go_sem] assert_given
set_option maxRecDepth 100000 in
set_option maxHeartbeats 1000000 in
theorem leadsGiven (a : Option Addr) (n cap : Nat) (R : List (List Int)) (a' : Option Addr) (N cap' : Nat) (l : List Int) (b : Bool) (hb : M.isCycB R l = b) (w : World) (h : Mat w a n R) (h' : Ints .i64 w a' N l) (hc1 : N ≤ cap') (hc2 : cap' ≤ maxLen) :
    Calls Tryz.prog 171 #[.slice a n cap, wayC a' N cap'] w fun e w' => e = .returned (.bool b) ∧ Below w.heap.size w w' := by
  have HA := Lib.hid h
  have HI := Lib.hid h'
  have HM := Lib.hid hc2
  have HB := Lib.hid hb
  clear h h' hc2 hb
  go_enter Tryz.func171, Tryz.ntmps171
  go_wp2_with fail
  refine (isCycle_b _ _ _ R _ _ _ l _ b HB.out HA.out HI.out hc1 HM.out).mono ?_
  rintro e w1 ⟨rfl, hb⟩
  have HB1 := Lib.hid hb
  clear hb
  go_wp2
  go_ret
  exact ⟨rfl, HB1.out⟩
end Go.Proofs.YtmcihaihbnnblaaGreat.V
