/- Texts laid together: Cja. -/
import Derived.Test.YtlofnadpgnbmdaaGreatQa7
import Derived.Test.YtlofnadpgnbmdaaGreatQa9
import Derived.Test.YtlofnadpgnbmdaaGreatQa20
import Derived.Deep.RegionHeld3
set_option linter.unusedSimpArgs false
set_option linter.unusedVariables false
set_option linter.unusedSectionVars false
namespace Go.Proofs.YtlofnadpgnbmdaaGreat
namespace M
theorem inB_inN (n : Nat) (x : Int) : inB x 0 ((n : Int) - 1) = inN n x := by
  unfold inB inN
  rw [Bool.eq_iff_iff, Bool.and_eq_true]
  simp
  omega
theorem gr_ev {N : Nat} {l : List Pc} (h : isGr (N : Int) l = true) : evOk l N ∧ 1 ≤ N ∧ N ≤ 10 ∧ l.length ≤ 30 := by
  unfold isGr at h
  simp only [Bool.and_eq_true, decide_eq_true_eq] at h
  obtain ⟨h1, h2, h3⟩ := h
  unfold inB at h1
  simp only [Bool.and_eq_true, decide_eq_true_eq] at h1
  refine ⟨fun i hi => ?_, by omega, by omega, h2⟩
  have := all_at h3 hi
  unfold plW inB at this
  simp only [Bool.and_eq_true, decide_eq_true_eq] at this
  show 0 ≤ (l.getD i pz).1 ∧ (l.getD i pz).1 < N ∧ 0 ≤ (l.getD i pz).2.1 ∧ (l.getD i pz).2.1 < N ∧ 0 ≤ (l.getD i pz).2.2.1 ∧ (l.getD i pz).2.2.1 ≤ 1000 ∧ 0 ≤ (l.getD i pz).2.2.2 ∧ (l.getD i pz).2.2.2 ≤ 5
  omega
theorem gr_nat {x : Int} {l : List Pc} (h : isGr x l = true) : ∃ N : Nat, x = (N : Int) := by
  unfold isGr inB at h
  simp only [Bool.and_eq_true, decide_eq_true_eq] at h
  exact ⟨x.toNat, by omega⟩
end M
namespace V
set_option maxRecDepth 100000
open Go.RowKit
/-- The box of a place. -/
def PB (w : World) (g : Nat) (p : M.Pc) : Prop := w.cell? ⟨g, 0, none⟩ = some (.int .i64 p.1) ∧ w.cell? ⟨g, 1, none⟩ = some (.int .i64 p.2.1) ∧ w.cell? ⟨g, 2, none⟩ = some (.int .i64 p.2.2.1) ∧ w.cell? ⟨g, 3, none⟩ = some (.int .i64 p.2.2.2)
theorem PB.below {w w' : World} {g : Nat} {p : M.Pc} (h : PB w g p) (hb : Below w.heap.size w w') : PB w' g p :=
  ⟨(hb.cell (cell_lt h.1)).trans h.1, (hb.cell (cell_lt h.2.1)).trans h.2.1, (hb.cell (cell_lt h.2.2.1)).trans h.2.2.1, (hb.cell (cell_lt h.2.2.2)).trans h.2.2.2⟩
set_option maxRecDepth 100000 in
set_option maxHeartbeats 400000 in
theorem isNoIdx (G : Nat) (x : Int) (a : Option Addr) (n cap : Nat) (v : Int) (w : World) (hG : GBox w G x a n cap) (hn : n ≤ 1048576) :
    Calls Tryz.prog 134 #[.int .i64 v, .pointer (some ⟨G, 0, none⟩)] w fun e w' => e = .returned (.bool (!M.inN n v)) ∧ Below w.heap.size w w' := by
  obtain ⟨t, ht⟩ : ∃ t, t = M.inN n v := ⟨_, rfl⟩
  have HU : Hid (∀ W, Calls Tryz.prog 135 #[.agg #[.int .i64 x, .slice a n cap], .int .i64 v] W fun e w' => e = .returned (.bool t) ∧ Below W.heap.size W w') := fun W => by rw [ht, ← M.inB_inN]; exact hasIndex x a n cap v W hn
  rw [← ht]
  clear ht
  obtain ⟨g0, g1⟩ := hG
  go_enter Tryz.func134, Tryz.ntmps134
  go_wp2_with fail
  refine (HU.out _).mono ?_
  rintro e w' ⟨rfl, hb⟩
  have HB := Lib.hid hb
  clear hb
  go_wp2
  go_ret
  exact ⟨rfl, HB.out⟩
set_option maxRecDepth 100000 in
set_option maxHeartbeats 1000000 in
theorem indexNoIdx (G : Nat) (x : Int) (a : Option Addr) (n cap : Nat) (ca : Option Addr) (m cc : Nat) (c : List Int) (w : World) (hG : GBox w G x a n cap) (hn : n ≤ 1048576) (h : Ints .i64 w ca m c) :
    Calls Tryz.prog 159 #[.slice ca m cc, .func (.func 134) #[] #[.pointer (some ⟨G, 0, none⟩)]] w fun e w' => Below w.heap.size w w' ∧
      ((e = .returned (.int .i64 (-1)) ∧ M.nodesB n c = true) ∨ ∃ j : Nat, e = .returned (.int .i64 j) ∧ M.nodesB n c = false) := by
  have HI := Lib.hid h
  have HL : Hid (c.length = m) := h.1
  have HG := Lib.hid hG
  have hm := h.2.1
  unfold maxLen at hm
  clear h hG
  go_enter Tryz.func159, Tryz.ntmps159
  go_wp2
  go_loopw [5, 8] (fun _ iv wr => ∃ k : Nat, k ≤ m ∧ iv = .int .i64 k ∧ Hid (∀ j, j < k → M.inN n (c.getD j 0) = true) ∧ Hid (Below w.heap.size w wr)) (fun _ iv _ => m - (intOf iv).toNat)
  case atStart => exact ⟨0, Nat.zero_le _, rfl, fun j hj => absurd hj (Nat.not_lt_zero j), Below.refl _ _⟩
  case round =>
    obtain ⟨k, hk, rfl, HA, HW⟩ := hrel
    by_cases hkl : k < m
    · have hki : (k : Int) < (m : Int) := by omega
      obtain ⟨b, off, y, rfl, -, hy, c0⟩ := (HI.out.below HW.out).at k hkl
      obtain ⟨t, ht⟩ : ∃ t, t = M.inN n y := ⟨_, rfl⟩
      have HT : Hid (M.inN n (c.getD k 0) = t) := by show _ = _; rw [← hy, ht]
      have HCa : Hid (Calls Tryz.prog 134 #[.int .i64 y, .pointer (some ⟨G, 0, none⟩)] wr fun e w' => e = .returned (.bool (!t)) ∧ Below wr.heap.size wr w') := by show Calls _ _ _ _ _; rw [ht]; exact isNoIdx G x a n cap y wr (HG.out.below HW.out) hn
      have HS := Lib.hid HW.out.size
      clear ht hy
      cases t with
      | true =>
        go_wp2_with (go_at_call 134; refine (HCa.out).mono ?_; rintro e w' ⟨rfl, hb'⟩)
        go_roundw
        case rel => exact ⟨k + 1, by omega, by go_num, fun i hi => by rcases Nat.lt_or_ge i k with q | q; exact HA.out i q; rw [show i = k by omega]; exact HT.out, HW.out.trans (hb'.mono HS.out)⟩
        case measure => simp [intOf]; omega
      | false =>
        go_wp2_with (go_at_call 134; refine (HCa.out).mono ?_; rintro e w' ⟨rfl, hb'⟩)
        go_ret
        refine ⟨HW.out.trans (hb'.mono HS.out), .inr ⟨k, rfl, ?_⟩⟩
        unfold M.nodesB
        cases hq : c.all (M.inN n) with
        | false => rfl
        | true =>
          have := List.all_eq_true.1 hq (c.getD k 0) (by
            have hh : k < c.length := by rw [HL.out]; exact hkl
            rw [List.getD_eq_getElem?_getD, List.getElem?_eq_getElem hh]; exact List.getElem_mem hh)
          rw [HT.out] at this; cases this
    · obtain rfl : k = m := by omega
      have HE : Hid (M.nodesB n c = true) := List.all_eq_true.2 fun z hz => by
        obtain ⟨i, hi, rfl⟩ := List.mem_iff_getElem.1 hz
        have := HA.out i (by rw [← HL.out]; exact hi)
        rwa [List.getD_eq_getElem?_getD, List.getElem?_eq_getElem hi] at this
      go_wp2
      go_ret
      exact ⟨HW.out, .inl ⟨rfl, HE.out⟩⟩
set_option maxRecDepth 100000 in
set_option maxHeartbeats 1000000 in
theorem containsNoIdx (G : Nat) (x : Int) (a : Option Addr) (n cap : Nat) (ca : Option Addr) (m cc : Nat) (c : List Int) (v : Bool) (hv : M.nodesB n c = v) (w : World) (hG : GBox w G x a n cap) (hn : n ≤ 1048576) (h : Ints .i64 w ca m c) :
    Calls Tryz.prog 136 #[.slice ca m cc, .func (.func 134) #[] #[.pointer (some ⟨G, 0, none⟩)]] w fun e w' => e = .returned (.bool (!v)) ∧ Below w.heap.size w w' := by
  have HC := Lib.hid (indexNoIdx G x a n cap ca m cc c w hG hn h)
  have HV := Lib.hid hv
  clear h hG hv
  go_enter Tryz.func136, Tryz.ntmps136
  go_wp2_with fail
  refine (HC.out).mono ?_
  rintro z w1 ⟨hb, ⟨rfl, hall⟩ | ⟨j, rfl, hall⟩⟩
  · rw [HV.out] at hall
    subst hall
    have HB := Lib.hid hb
    clear hb
    go_wp2
    go_ret
    exact ⟨rfl, HB.out⟩
  · rw [HV.out] at hall
    subst hall
    have hj0 : (0 : Int) ≤ (j : Int) := by omega
    have HB := Lib.hid hb
    clear hb
    go_wp2
    go_ret
    exact ⟨rfl, HB.out⟩
end V
end Go.Proofs.YtlofnadpgnbmdaaGreat
