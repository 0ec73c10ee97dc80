/- Texts laid together: Pth6, Mean3, Mean4, BstZ. -/
import Derived.Test.YtlljnfljcdljaabGreatQz7
import Derived.Test.YtlljnfljcdljaabGreatQz9
import Derived.Deep.RegionWith
import Derived.Deep.RegionHeld3
import Derived.Test.YtlljnfljcdljaabGreatQz8
set_option linter.unusedSimpArgs false
set_option linter.unusedVariables false
set_option linter.unusedSectionVars false
namespace Go.Proofs.YtlljnfljcdljaabGreat.V
open Go.RowKit

/-- Two integers are returned, and nothing that was there is changed. -/
def IPost (r : Int × Int) (w : World) (e : Ending) (w' : World) : Prop := e = .returned (.tuple #[.int .i64 r.1, .int .i64 r.2]) ∧ Below w.heap.size w w'
theorem IPost.mk {r : Int × Int} {x y : Int} {w w' : World} (h : r = (x, y)) (hb : Below w.heap.size w w') : IPost r w (.returned (.tuple #[.int .i64 x, .int .i64 y])) w' := by
  subst h; exact ⟨rfl, hb⟩
def BPost (b : Bool) (w : World) (e : Ending) (w' : World) : Prop := e = .returned (.bool b) ∧ Below w.heap.size w w'


end Go.Proofs.YtlljnfljcdljaabGreat.V

namespace Go.Proofs.YtlljnfljcdljaabGreat.V
open Go.RowKit

set_option maxRecDepth 100000 in
set_option maxHeartbeats 1000000 in
theorem isCycle (a : Option Addr) (n cap : Nat) (R : List (List Int)) (a' : Option Addr) (N cap' : Nat) (l : List Int) (w : World) (h : Mat w a n R) (h' : Ints .i64 w a' N l) (hc1 : N ≤ cap') (hc2 : cap' ≤ maxLen) :
    Calls Tryz.prog 23 #[.slice a n cap, .slice a' N cap'] w (BPost (M.isCycB R l) w) := by
  have HM := Lib.hid hc2
  have hm := h'.2.1
  unfold maxLen at hc2 hm
  have HA := Lib.hid h
  have HI := Lib.hid h'
  have HL := Lib.hid h'.1
  have HR := Lib.hid h.1
  by_cases hs : M.sqB R = true
  · have HS := Lib.hid hs
    have HQ := Lib.hid (sq_of h hs)
    obtain ⟨-, -, -, n1, n2⟩ := sq_of h hs
    clear h h' hs
    by_cases h0 : N = 0
    · subst h0
      have HE : Hid (M.isCycB R l = false) := by show _ = _; unfold M.isCycB M.cycB; rw [HL.out]; simp
      go_enter Tryz.func23, Tryz.ntmps23
      go_wp2_with (go_at_call 48; refine (isSquare_b _ _ _ R _ true HS.out HA.out).mono ?_; rintro e w' ⟨rfl, rfl⟩)
      go_ret
      exact ⟨retB HE.out.symm, Below.refl _ _⟩
    · have d1 : 1 ≤ N := by omega
      by_cases hv : M.nodesB n l = true
      · have HV := Lib.hid hv
        clear hv
        obtain ⟨q, hq⟩ : ∃ q, q = M.diffB l := ⟨_, rfl⟩
        have HQd := Lib.hid hq
        have HC : Calls Tryz.prog 50 #[.slice a' N cap'] w fun e w' => e = .returned (.bool q) ∧ Below w.heap.size w w' := by
          rw [hq]
          exact areDifferent n _ _ _ _ _ HI.out HV.out n2
        clear hq
        cases q with
        | false =>
          have HE : Hid (M.isCycB R l = false) := by show _ = _; unfold M.isCycB M.cycB; rw [← HQd.out]; simp
          go_enter Tryz.func23, Tryz.ntmps23
          go_wp2_with (first | (go_at_call 48; refine (isSquare_b _ _ _ R _ true HS.out HA.out).mono ?_; rintro e w' ⟨rfl, rfl⟩) | (go_at_call 49; refine (areNodes_b _ n _ _ _ _ l _ true HV.out (by omega) HI.out).mono ?_; rintro e w' ⟨rfl, rfl⟩) | (go_at_call 50; refine HC.mono ?_; rintro e w1 ⟨rfl, hb⟩; have HB := Lib.hid hb; clear hb))
          go_ret
          exact ⟨retB HE.out.symm, HB.out⟩
        | true =>
          have hN : N ≤ n := by have := M.diffB_len HV.out HQd.out.symm; rw [HL.out] at this; exact this
          obtain ⟨y, hy⟩ : ∃ y, y = M.aroundW R l := ⟨_, rfl⟩
          have HY := Lib.hid hy
          have HC2 : ∀ w1, Below w.heap.size w w1 → Calls Tryz.prog 51 #[.slice a n cap, .slice a' N cap'] w1 fun e w' => e = .returned (.int .i64 y) ∧ ∃ q, w' = w1.drewN q := by
            intro w1 hb
            rw [hy]
            exact weightAround _ _ _ _ _ _ _ _ _ (HQ.out.below hb) (HI.out.below hb) HV.out hc1 HM.out d1 (by omega)
          clear hy
          by_cases hb : y = -1000000000000000
          · have HE : Hid (M.isCycB R l = false) := by show _ = _; unfold M.isCycB M.cycB; rw [← HY.out, hb]; simp
            subst hb
            go_enter Tryz.func23, Tryz.ntmps23
            go_wp2_with (first | (go_at_call 48; refine (isSquare_b _ _ _ R _ true HS.out HA.out).mono ?_; rintro e w' ⟨rfl, rfl⟩) | (go_at_call 49; refine (areNodes_b _ n _ _ _ _ l _ true HV.out (by omega) HI.out).mono ?_; rintro e w' ⟨rfl, rfl⟩) | (go_at_call 50; refine HC.mono ?_; rintro e w1 ⟨rfl, hb⟩; have HB := Lib.hid hb; clear hb) | (go_at_call 51; refine (HC2 _ HB.out).mono ?_; rintro e w' ⟨rfl, q, rfl⟩))
            go_ret
            exact ⟨retB HE.out.symm, below_drewN HB.out _⟩
          · have hb2 : (y == -1000000000000000) = false := by simpa using hb
            have hb3 : (y != -1000000000000000) = true := by simpa using hb
            have HE : Hid (M.isCycB R l = true) := by
              show _ = _; unfold M.isCycB M.cycB
              rw [← HY.out, HS.out, HR.out, HV.out, ← HQd.out, HL.out, decide_eq_true d1, decide_eq_true hb]; rfl
            clear hb
            go_enter Tryz.func23, Tryz.ntmps23
            go_wp2_with (first | (go_at_call 48; refine (isSquare_b _ _ _ R _ true HS.out HA.out).mono ?_; rintro e w' ⟨rfl, rfl⟩) | (go_at_call 49; refine (areNodes_b _ n _ _ _ _ l _ true HV.out (by omega) HI.out).mono ?_; rintro e w' ⟨rfl, rfl⟩) | (go_at_call 50; refine HC.mono ?_; rintro e w1 ⟨rfl, hb⟩; have HB := Lib.hid hb; clear hb) | (go_at_call 51; refine (HC2 _ HB.out).mono ?_; rintro e w' ⟨rfl, q, rfl⟩))
            go_ret
            exact ⟨retB HE.out.symm, below_drewN HB.out _⟩
      · simp only [Bool.not_eq_true] at hv
        have HV := Lib.hid hv
        have HE : Hid (M.isCycB R l = false) := by show _ = _; unfold M.isCycB M.cycB; rw [HR.out, HV.out]; simp
        clear hv
        go_enter Tryz.func23, Tryz.ntmps23
        go_wp2_with (first | (go_at_call 48; refine (isSquare_b _ _ _ R _ true HS.out HA.out).mono ?_; rintro e w' ⟨rfl, rfl⟩) | (go_at_call 49; refine (areNodes_b _ n _ _ _ _ l _ false HV.out (by omega) HI.out).mono ?_; rintro e w' ⟨rfl, rfl⟩))
        go_ret
        exact ⟨retB HE.out.symm, Below.refl _ _⟩
  · simp only [Bool.not_eq_true] at hs
    have HS := Lib.hid hs
    have HE : Hid (M.isCycB R l = false) := by show _ = _; unfold M.isCycB; rw [HS.out]; rfl
    clear h h' hs
    go_enter Tryz.func23, Tryz.ntmps23
    go_wp2_with (go_at_call 48; refine (isSquare_b _ _ _ R _ false HS.out HA.out).mono ?_; rintro e w' ⟨rfl, rfl⟩)
    go_ret
    exact ⟨retB HE.out.symm, Below.refl _ _⟩
theorem isCycle_b (a : Option Addr) (n cap : Nat) (R : List (List Int)) (a' : Option Addr) (N cap' : Nat) (l : List Int) (w : World) (b : Bool) (hb : M.isCycB R l = b) (h : Mat w a n R) (h' : Ints .i64 w a' N l) (hc1 : N ≤ cap') (hc2 : cap' ≤ maxLen) :
    Calls Tryz.prog 23 #[.slice a n cap, .slice a' N cap'] w fun e w' => e = .returned (.bool b) ∧ Below w.heap.size w w' := by
  subst hb; exact isCycle _ _ _ _ _ _ _ _ _ h h' hc1 hc2



end Go.Proofs.YtlljnfljcdljaabGreat.V

namespace Go.Proofs.YtlljnfljcdljaabGreat.V
open Go.RowKit
/-- A ratio and a code. -/
def retQ (r : (Int × Int) × Int) : Ending := .returned (.tuple #[.agg #[.int .i64 r.1.1, .int .i64 r.1.2], .int .i64 r.2])
theorem bel2s {w w1 : World} {o o' : Obj} {i j : Nat} {u v : Value} (hb : Below ((w.alloc o).alloc o').heap.size ((w.alloc o).alloc o') w1) : Below w.heap.size w ((w1.setCell ⟨w.heap.size + 1, i, none⟩ u).setCell ⟨w.heap.size + 1, j, none⟩ v) :=
  ((bel2 hb).setCell (by show w.heap.size ≤ w.heap.size + 1; omega) u).setCell (by show w.heap.size ≤ w.heap.size + 1; omega) v
end Go.Proofs.YtlljnfljcdljaabGreat.V

namespace Go.Proofs.YtlljnfljcdljaabGreat
namespace M
theorem cycB_t {R : List (List Int)} {l : List Int} (h : cycB R l = true) : 1 ≤ l.length ∧ nodesB R.length l = true ∧ diffB l = true ∧ aroundW R l ≠ -1000000000000000 := by
  unfold cycB at h
  rw [Bool.and_eq_true, Bool.and_eq_true, Bool.and_eq_true, decide_eq_true_eq, decide_eq_true_eq] at h
  exact ⟨h.1.1.1, h.1.1.2, h.1.2, h.2⟩
theorem cycB_bd {R : List (List Int)} {l : List Int} (hs : sqB R = true) (h : cycB R l = true) : 1 ≤ l.length ∧ l.length ≤ 10 ∧ -10000000 ≤ aroundW R l ∧ aroundW R l ≤ 10000000 := by
  obtain ⟨c1, c2, c3, c4⟩ := cycB_t h
  obtain ⟨n1, n2, hA⟩ := sq_sm hs
  have hl := diffB_len c2 c3
  have := arW_sm (A := ent R) hA c2 c1
  rw [around_arW] at c4 ⊢
  unfold Sm at this
  omega
/-- The mean of a list of nodes, and whether it is a cycle. -/
def mean2 (R : List (List Int)) (l : List Int) : (Int × Int) × Bool := if cycB R l then (meanR (aroundW R l) l.length, true) else ((0, 0), false)
end M
namespace V
open Go.RowKit
set_option maxRecDepth 100000 in
set_option maxHeartbeats 1000000 in
theorem sMean (a : Option Addr) (n cap : Nat) (R : List (List Int)) (a' : Option Addr) (N cap' : Nat) (l : List Int) (w : World) (h : Mat w a n R) (hs : M.sqB R = true) (h' : Ints .i64 w a' N l) (hc1 : N ≤ cap') (hc2 : cap' ≤ maxLen) :
    Calls Tryz.prog 47 #[.slice a n cap, .slice a' N cap'] w fun e w' => e = .returned (.tuple #[.agg #[.int .i64 (M.mean2 R l).1.1, .int .i64 (M.mean2 R l).1.2], .bool (M.mean2 R l).2]) ∧ Below w.heap.size w w' := by
  have HS := Lib.hid (sq_of h hs)
  have HI := Lib.hid h'
  have HL := Lib.hid h'.1
  have HM := Lib.hid hc2
  by_cases hc : M.cycB R l = true
  · obtain ⟨b1, b2, b3, b4⟩ := M.cycB_bd hs hc
    have hNl := h'.1
    have HC : Hid (M.cycleR R l = (M.aroundW R l, true)) := by show _ = _; unfold M.cycleR; rw [if_pos hc]
    have HE : Hid (M.mean2 R l = (M.meanR (M.aroundW R l) (N : Int), true)) := by show _ = _; unfold M.mean2; rw [if_pos hc, hNl]
    rw [hNl] at b1 b2
    obtain ⟨x, hx⟩ : ∃ x, x = M.aroundW R l := ⟨_, rfl⟩
    rw [← hx] at HC HE b3 b4
    clear h hs h' hc hx hc2 hNl
    go_enter Tryz.func47, Tryz.ntmps47
    go_wp2_with fail
    refine (sCycle _ _ _ R _ _ _ l _ (HS.out.below (b_alloc _ _)) (HI.out.below (b_alloc _ _)) hc1 HM.out).mono ?_
    rintro e w1 ⟨rfl, hb⟩
    rw [HC.out]
    have hz := hb.size
    simp at hz
    obtain ⟨hcc, hff⟩ := bcell hb
    go_wp2_with fail
    refine (sRatio _ _ _ (by omega) (by omega) (by omega) (by omega) (by omega)).mono ?_
    rintro e w2 ⟨rfl, hb2⟩
    have hbb := hb.trans (hb2.mono hb.size)
    have hz2 := hbb.size
    simp at hz2
    obtain ⟨hc2, hf2⟩ := bcell hbb
    have z1 : w.heap.size < w2.heap.size := by omega
    go_wp2
    exact bodyPost_ret (v := .tuple #[.agg #[.int .i64 (M.ratN x N), .int .i64 (M.ratD x N)], .bool true]) (by simp [results, Tryz.results47, go_sem, z1, hc2]) rfl ⟨by rw [HE.out]; rfl, bel1s hbb⟩
  · simp only [Bool.not_eq_true] at hc
    have HC : Hid (M.cycleR R l = (0, false)) := by show _ = _; unfold M.cycleR; rw [if_neg (by rw [hc]; exact Bool.false_ne_true)]
    have HE : Hid (M.mean2 R l = ((0, 0), false)) := by show _ = _; unfold M.mean2; rw [if_neg (by rw [hc]; exact Bool.false_ne_true)]
    clear h hs h' hc hc2
    go_enter Tryz.func47, Tryz.ntmps47
    go_wp2_with fail
    refine (sCycle _ _ _ R _ _ _ l _ (HS.out.below (b_alloc _ _)) (HI.out.below (b_alloc _ _)) hc1 HM.out).mono ?_
    rintro e w1 ⟨rfl, hb⟩
    rw [HC.out]
    have hz := hb.size
    simp at hz
    obtain ⟨hcc, hff⟩ := bcell hb
    have z1 : w.heap.size < w1.heap.size := by omega
    go_wp2
    exact bodyPost_ret (v := .tuple #[.agg #[.int .i64 0, .int .i64 0], .bool false]) (by simp [results, Tryz.results47, go_sem, z1, hcc]) rfl ⟨by rw [HE.out], bel1s hb⟩
end V
end Go.Proofs.YtlljnfljcdljaabGreat

namespace Go.Proofs.YtlljnfljcdljaabGreat.V
open Go.RowKit
end Go.Proofs.YtlljnfljcdljaabGreat.V

namespace Go.Proofs.YtlljnfljcdljaabGreat.V
open Go.RowKit
theorem sm_of {w : World} {a : Option Addr} {n : Nat} {R : List (List Int)} (h : Mat w a n R) (hs : M.sqB R = true) : ∀ i j, i < n → j < n → M.Sm 1000000 (M.ent R i j) := by
  exact (sq_parts h hs).2.2.2




end Go.Proofs.YtlljnfljcdljaabGreat.V

namespace Go.Proofs.YtlljnfljcdljaabGreat
namespace M
/-- A list that the search may stand at. -/
def Cyc0 (A : Nat → Nat → Int) (n : Nat) (q : List Int) : Prop :=
  (q = [] ∧ hasCyc A n = false) ∨ (nodesB n q = true ∧ diffB q = true ∧ 1 ≤ q.length ∧ arW A q ≠ -1000000000000000)
def best2 (R : List (List Int)) : List Int := if hasCyc (ent R) R.length then bestCyc R else []
theorem fnd_arW {A : Nat → Nat → Int} {n : Nat} {ov : Int} {q : List Int} (hn : n ≤ 10) (hA : ∀ i j, i < n → j < n → Sm 1000000 (A i j)) (h : Fnd A n ov q) : arW A q ≠ -1000000000000000 := by
  obtain ⟨g1, g2, g3, g4, g5, g6⟩ := h
  have hw : arW A q = wkc A (vx q) (q.length - 1) + A (vx q 0) (lastV q) := times_fin g4 g5
  intro e
  have hs := arW_sm hA g1 g3
  have hl := diffB_len g1 g2
  have h1 := hA (vx q 0) (lastV q) (vx_lt g1 (by omega)) (vx_lt g1 (by omega))
  have h2 := wkc_sm (A := A) (v := vx q) (t := q.length - 1) (fun u hu => sm_wide (hA _ _ (vx_lt g1 (by omega)) (vx_lt g1 (by omega))))
  unfold Sm at h1 h2 hs
  have hk : ((q.length - 1 : Nat) : Int) ≤ 9 := by omega
  generalize ((q.length - 1 : Nat) : Int) = k at *
  omega
theorem cyc0_start {A : Nat → Nat → Int} {n : Nat} (hn : n ≤ 10) (hA : ∀ i j, i < n → j < n → Sm 1000000 (A i j)) : Cyc0 A n (overL A n (-1000000000000000)) := by
  have hW : ∀ i j, i < n → j < n → Sm 1000001000000 (A i j) := fun i j hi hj => sm_wide (hA i j hi hj)
  have h := over_bot hn hA
  by_cases e : (overL A n (-1000000000000000)).length = 0
  · left
    rw [← h]
    exact ⟨List.eq_nil_of_length_eq_zero e, decide_eq_false (fun k => k e)⟩
  · right
    have hf := over_fnd hn hW e
    exact ⟨hf.1, hf.2.1, hf.2.2.1, fnd_arW hn hA hf⟩
theorem cyc0_mean {R : List (List Int)} {q : List Int} (h : nodesB R.length q = true ∧ diffB q = true ∧ 1 ≤ q.length ∧ arW (ent R) q ≠ -1000000000000000) : mean2 R q = (cMean (ent R) q, true) := by
  obtain ⟨h1, h2, h3, h4⟩ := h
  unfold mean2
  rw [if_pos (by unfold cycB; rw [h1, h2, around_arW, decide_eq_true h3, decide_eq_true h4]; rfl)]
  rfl
end M
namespace V
open Go.RowKit
/-- The integers of a slice, as the world has them. -/
def readL (w : World) : Value → List Int
  | .slice (some ⟨b, off, _⟩) n _ => (List.range n).map fun i => match w.cell? ⟨b, off + i, none⟩ with | some (.int _ x) => x | _ => 0
  | _ => []
theorem readL_ints {w : World} {a : Option Addr} {n c : Nat} {l : List Int} (h : Ints .i64 w a n l) : readL w (.slice a n c) = l := by
  obtain ⟨h1, -, h3⟩ := h
  rcases h3 with h3 | ⟨b, off, rfl, -, h3⟩
  · subst h3
    obtain rfl : l = [] := List.eq_nil_of_length_eq_zero h1
    cases a <;> rfl
  · show (List.range n).map _ = l
    apply List.ext_getElem
    · simp [h1]
    · intro k k1 k2
      have e := h3 k (by omega)
      simp only [List.getElem_map, List.getElem_range, e]
      simp [k2]
theorem readL_own {w : World} {B n c : Nat} {a : Option Addr} {l : List Int} (h : Own w B (.slice a n c) l) : readL w (.slice a n c) = l := by
  exact readL_ints h.ints'
theorem own_caps {w : World} {B n c : Nat} {a : Option Addr} {l : List Int} (h : Own w B (.slice a n c) l) : n ≤ c ∧ c ≤ maxLen := by
  have hl := h.len
  obtain ⟨a', c', hv, h1, h2, -⟩ := own_form h
  injection hv with e1 e2 e3
  subst e3
  exact ⟨by omega, h2⟩
set_option maxRecDepth 100000 in
set_option maxHeartbeats 2000000 in
theorem sBest (a : Option Addr) (n cap : Nat) (R : List (List Int)) (w : World) (h : Mat w a n R) (hs : M.sqB R = true) :
    Calls Tryz.prog 46 #[.slice a n cap] w fun e w' => ∃ b' n' c', e = .returned (.tuple #[.slice b' n' c', .bool (M.hasCyc (M.ent R) n)]) ∧ Own w' w.heap.size (.slice b' n' c') (M.best2 R) ∧ Below w.heap.size w w' := by
  have HS := Lib.hid (sq_of h hs)
  have HMt := Lib.hid h
  have HQ := Lib.hid hs
  have HSm := Lib.hid (sm_of h hs)
  have hRn : R.length = n := h.1
  have HRn := Lib.hid hRn
  obtain ⟨n1, n2⟩ := (sq_of h hs).2.2.2
  clear h hs hRn
  go_enter Tryz.func46, Tryz.ntmps46
  go_wp2_with fail
  refine (sOver _ _ _ R (-1000000000000000) _ HS.out).mono ?_
  rintro e w1 ⟨b1, N1, c1, rfl, ho, hb⟩
  have HO1 := Lib.hid ho
  have HB1 := Lib.hid hb
  have HC1 := Lib.hid (M.cyc0_start n2 HSm.out)
  clear ho hb
  go_wp2
  go_loopw [4, 5, 6, 7] (fun v _ _ _ wr => ∃ (b : Option Addr) (N c : Nat) (q : List Int), v = .slice b N c ∧ Hid (Own wr w.heap.size (.slice b N c) q) ∧ Hid (M.Cyc0 (M.ent R) n q) ∧ Hid (Below w.heap.size w wr)) (fun v _ _ _ wr => M.mu (M.ent R) (readL wr v))
  case atStart => exact ⟨b1, N1, c1, _, rfl, HO1, HC1, HB1⟩
  case round =>
    clear HO1 HB1 HC1
    obtain ⟨b, N, c, q, rfl, HO, HC, HB⟩ := hrel
    obtain ⟨wo, rfl⟩ : ∃ x, x = wr := ⟨_, rfl⟩
    have hNl := HO.out.len
    rcases HC.out with ⟨hq0, hno⟩ | hq
    · have hN0 : N = 0 := by rw [hNl, hq0]; rfl
      have HE : Hid (M.best2 R = []) := by show _ = _; unfold M.best2; rw [HRn.out, hno]; rfl
      have HNo := Lib.hid hno
      subst hN0
      clear hq0 hno hNl
      go_wp2
      go_ret2
      refine ⟨none, 0, 0, ?_, ?_, HB.out⟩
      · rw [HNo.out]; rfl
      · rw [HE.out]; exact own_nil _ _
    · have hlen := M.diffB_len hq.1 hq.2.1
      have hN1 : 0 < N := by omega
      have hcap := own_caps HO.out
      have HM2 : Hid (M.mean2 R q = (M.cMean (M.ent R) q, true)) := M.cyc0_mean (by rw [HRn.out]; exact hq)
      have HCap := Lib.hid hcap
      have HNear := Lib.hid (M.cMean_near HSm.out hq.2.2.1 (by omega) hq.1 hq.2.2.2).1
      have HQq := Lib.hid hq
      have HLen := Lib.hid hlen
      have HNl := Lib.hid hNl
      obtain ⟨r, hr⟩ : ∃ r, r = M.cMean (M.ent R) q := ⟨_, rfl⟩
      have HR := Lib.hid hr
      obtain ⟨r1, r2⟩ := r
      have HSh : Hid (∀ i j, i < n → j < n → M.Sm 1000001000000 (M.shf (M.ent R) r1 r2 i j)) := by
        show ∀ i j, _
        have := M.sh_sm HSm.out HNear.out
        rw [← hr] at this; exact this
      have HNe : Hid (M.Near r1 r2) := by show M.Near r1 r2; have := HNear.out; rw [← hr] at this; exact this
      clear hq hlen hcap hr hNl
      go_wp2_with fail
      refine (sMean _ _ _ R _ _ _ q _ (HMt.out.below HB.out) HQ.out HO.out.ints' HCap.out.1 HCap.out.2).mono ?_
      rintro e w2 ⟨rfl, hb2⟩
      rw [HM2.out, ← HR.out]
      have HB2 := Lib.hid hb2
      clear hb2
      go_wp2_with fail
      obtain ⟨wb, hwb⟩ : ∃ x, x = w2.alloc (rbox r1 r2) := ⟨_, rfl⟩
      have HX : Hid (Boxed w2 wb r1 r2) := by show Boxed _ _ _ _; rw [hwb]; exact boxed _ _ _
      have HBw := Lib.hid (HB.out.trans (HB2.out.mono HB.out.size))
      have HBx := Lib.hid (HBw.out.trans (HX.out.below.mono HBw.out.size))
      change Calls _ _ _ (w2.alloc (rbox r1 r2)) _
      rw [← hwb]
      clear hwb
      refine (sShift _ _ _ R r1 r2 _ (HMt.out.below HBx.out) HS.out.2.1 n1 n2 HSm.out HNe.out).mono ?_
      rintro e w3 ⟨b3, c3, rfl, ho, hb⟩
      have HO3 := Lib.hid ho
      have HB3 := Lib.hid hb
      clear ho hb
      obtain ⟨q', hq'⟩ : ∃ q', q' = M.overL (M.shf (M.ent R) r1 r2) n 0 := ⟨_, rfl⟩
      have HOv : Hid (M.overL (M.ent (M.mk n n (M.shf (M.ent R) r1 r2))) n 0 = q') := by
        show _ = _
        rw [hq']; exact M.over_congr n2 HSh.out fun i j hi hj => M.ent_mk _ _ _ _ _ hi hj
      have HQ' := Lib.hid hq'
      clear hq'
      have HSq : ∀ wx b c, OwnM wx wb.heap.size (.slice b n c) (M.mk n n (M.shf (M.ent R) r1 r2)) → Sq wx b n (M.mk n n (M.shf (M.ent R) r1 r2)) := fun wx b c ho =>
        ⟨ho.mat, rect_mk _ _ _, fun i j hi hj => by rw [M.ent_mk _ _ _ _ _ hi hj]; exact HSh.out i j hi hj, n1, n2⟩
      have HSQ := Lib.hid HSq
      clear HSq
      go_wp2_with fail
      refine (sOver _ _ _ (M.mk n n (M.shf (M.ent R) r1 r2)) 0 _ (HSQ.out _ _ _ HO3.out)).mono ?_
      rintro e w4 ⟨b4, N4, c4, rfl, ho, hb⟩
      rw [HOv.out] at ho
      have HO4 := Lib.hid ho
      have HB4 := Lib.hid (HB3.out.trans (hb.mono HB3.out.size))
      obtain ⟨p0, p1⟩ := HX.out.cells HB4.out
      have hN4 := ho.len
      have HN4 := Lib.hid hN4
      clear ho hb
      by_cases h4 : N4 = 0
      · have hfi := M.fnd_is n2 HSm.out HQq.out.1 HQq.out.2.1 HQq.out.2.2.1 HQq.out.2.2.2 (by rw [← HR.out, ← HQ'.out, ← hN4, h4])
        have HNo : Hid (M.hasCyc (M.ent R) n = true) := hfi.1
        have HE : Hid (M.best2 R = M.overL (M.shf (M.ent R) r1 r2) n (-1)) := by
          show _ = _
          unfold M.best2
          rw [HRn.out, hfi.1, if_pos rfl]
          unfold M.bestCyc
          rw [HRn.out, ← hfi.2, ← HR.out]
        clear hfi hN4
        subst h4
        go_wp2_with fail
        refine (sShift _ _ _ R r1 r2 _ (HMt.out.below (HBx.out.trans (HB4.out.mono HBx.out.size))) HS.out.2.1 n1 n2 HSm.out HNe.out).mono ?_
        rintro e w5 ⟨b5, c5, rfl, ho, hb⟩
        have HO5 := Lib.hid ho
        have HB5 := Lib.hid (HB4.out.trans (hb.mono HB4.out.size))
        have HSQ5 : Hid (Sq w5 b5 n (M.mk n n (M.shf (M.ent R) r1 r2))) := HSQ.out _ _ _ (ho.mono HB4.out.size)
        clear ho hb
        go_wp2_with fail
        refine (sOver _ _ _ (M.mk n n (M.shf (M.ent R) r1 r2)) (-1) _ HSQ5.out).mono ?_
        rintro e w6 ⟨b6, N6, c6, rfl, ho, hb⟩
        rw [M.over_congr (A := M.shf (M.ent R) r1 r2) n2 HSh.out fun i j hi hj => M.ent_mk _ _ _ _ _ hi hj, ← HE.out] at ho
        have HB6 := Lib.hid (HBx.out.trans ((HB5.out.trans (hb.mono HB5.out.size)).mono HBx.out.size))
        have HO6 := Lib.hid (ho.mono (Nat.le_trans HBx.out.size HB5.out.size))
        clear ho hb
        go_wp2
        go_ret2
        exact ⟨b6, N6, c6, by rw [HNo.out]; rfl, HO6.out, HB6.out⟩
      · have hf : M.Fnd (M.shf (M.ent R) (M.cMean (M.ent R) q).1 (M.cMean (M.ent R) q).2) n 0 q' := by
          have hne : (M.overL (M.shf (M.ent R) r1 r2) n 0).length ≠ 0 := by rw [← HQ'.out]; omega
          have := M.over_fnd n2 HSh.out hne
          rw [← HQ'.out] at this
          rw [← HR.out]; exact this
        obtain ⟨g1, g2, g3, g4, g5, g6⟩ := M.fnd_up n2 HSm.out HQq.out.1 HQq.out.2.1 HQq.out.2.2.1 HQq.out.2.2.2 hf
        have HC' : Hid (M.Cyc0 (M.ent R) n q') := .inr ⟨g1, g2, g3, g5⟩
        have HL : Hid (M.mu (M.ent R) q' < M.mu (M.ent R) q) := M.mu_lt HQq.out.2.2.1 (Nat.le_trans HLen.out n2) g3 g4 (M.cMean_near HSm.out g3 g4 g1 g5).2.2.1 g6
        have HB6 := Lib.hid (HBx.out.trans (HB4.out.mono HBx.out.size))
        have HO6 := Lib.hid (HO4.out.mono (Nat.le_trans HBx.out.size HB3.out.size))
        have hN4p : 0 < N4 := by omega
        clear hf g1 g2 g3 g4 g5 g6 hN4
        go_wp2
        go_roundw
        case rel => exact ⟨b4, N4, c4, q', rfl, HO6, HC', HB6⟩
        case measure =>
          show M.mu _ (readL w4 (.slice b4 N4 c4)) < M.mu _ (readL wo (.slice b N c))
          rw [readL_own HO6.out, readL_own HO.out]; exact HL.out
end V
end Go.Proofs.YtlljnfljcdljaabGreat

namespace Go.Proofs.YtlljnfljcdljaabGreat
namespace V
open Go.RowKit
set_option maxRecDepth 100000 in
set_option maxHeartbeats 1000000 in
theorem sBestCycle (a : Option Addr) (n cap : Nat) (R : List (List Int)) (w : World) (h : Mat w a n R) :
    Calls Tryz.prog 42 #[.slice a n cap] w (VRes (M.bestRes R) w) := by
  have HA := Lib.hid h
  have HRn := Lib.hid h.1
  by_cases hs : M.sqB R = true
  · have HS := Lib.hid hs
    obtain ⟨c, hc⟩ : ∃ c, c = M.hasCyc (M.ent R) n := ⟨_, rfl⟩
    have HNo := Lib.hid hc.symm
    have HE : Hid (M.bestRes R = if c then (M.best2 R, 0) else ([], 4)) := by
      show _ = _; unfold M.bestRes M.best2; rw [if_pos hs, HRn.out, ← hc]; cases c <;> rfl
    clear h hs hc
    go_enter Tryz.func42, Tryz.ntmps42
    go_wp2_with fail
    refine (sSquare_b _ _ _ R _ true HS.out HA.out).mono ?_
    rintro e w' ⟨rfl, qd, rfl⟩
    go_wp2_with fail
    refine (sBest _ _ _ R _ (HA.out.below (b_draws _ _)) HS.out).mono ?_
    rintro e w1 ⟨b', n', c', rfl, ho, hb0⟩
    rw [HNo.out]
    have HO := Lib.hid ho
    have HB := Lib.hid ((b_draws w qd).trans hb0)
    clear ho hb0
    cases c with
    | false =>
      go_wp2
      go_ret2
      exact VRes.nil HE.out HB.out
    | true =>
      go_wp2
      go_ret2
      rw [HE.out]
      exact ⟨_, _, _, rfl, HO.out, HB.out⟩
  · simp only [Bool.not_eq_true] at hs
    have HS := Lib.hid hs
    have HE : Hid (M.bestRes R = ([], 1)) := by show _ = _; unfold M.bestRes; rw [if_neg (by rw [hs]; exact Bool.false_ne_true)]
    clear h hs
    go_enter Tryz.func42, Tryz.ntmps42
    go_wp2_with fail
    refine (sSquare_b _ _ _ R _ false HS.out HA.out).mono ?_
    rintro e w' ⟨rfl, qd, rfl⟩
    go_wp2
    go_ret2
    exact VRes.nil HE.out (b_draws _ _)
end V
end Go.Proofs.YtlljnfljcdljaabGreat
