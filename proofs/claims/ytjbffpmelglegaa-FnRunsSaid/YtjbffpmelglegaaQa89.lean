/- Texts laid together: Frz. -/
import Derived.Test.YtjbffpmelglegaaQa81
import Derived.Test.YtjbffpmelglegaaQa85
set_option linter.unusedSimpArgs false
set_option linter.unusedVariables false
set_option linter.unusedSectionVars false
namespace Go.Proofs.Ytjbffpmelglegaa
namespace M
def rdP (l : List Pc) (R : List Fr) (k : Int) (i : Nat) : Bool := (l.take i).all fun p => !decide (p.2.1 = k) || decide (0 < tokF R p)
theorem rdP_next (l : List Pc) (R : List Fr) (k : Int) {i : Nat} (hi : i < l.length) : rdP l R k (i + 1) = (rdP l R k i && (!decide ((l.getD i pz).2.1 = k) || decide (0 < tokF R (l.getD i pz)))) := by
  unfold rdP
  rw [takeF_snoc l pz hi, List.all_append]
  simp
theorem rdP_all {l : List Pc} {R : List Fr} {k : Int} (h : ∀ p ∈ l, 0 ≤ tokF R p) : rdP l R k l.length = enB l R k := by
  rw [← enB_all, Bool.eq_iff_iff]
  unfold rdP missP
  rw [List.take_length, List.all_eq_true, List.all_eq_true]
  constructor
  · intro q p hp
    have := q p hp
    have h0 := h p hp
    simp only [Bool.or_eq_true, Bool.not_eq_true', decide_eq_false_iff_not, decide_eq_true_iff, Bool.and_eq_false_iff] at this ⊢
    omega
  · intro q p hp
    have := q p hp
    have h0 := h p hp
    simp only [Bool.or_eq_true, Bool.not_eq_true', decide_eq_false_iff_not, decide_eq_true_iff, Bool.and_eq_false_iff] at this ⊢
    omega
theorem mem_enL {l : List Pc} {R : List Fr} {N k : Nat} : (k : Int) ∈ enL l R N ↔ k < N ∧ enB l R k = true := by
  induction N with
  | zero => simp [enL]
  | succ N ih =>
    unfold enL
    by_cases h : enB l R N = true
    · rw [if_pos h, List.mem_append, ih]
      simp only [List.mem_singleton]
      constructor
      · rintro (q | q)
        · exact ⟨by omega, q.2⟩
        · obtain rfl : k = N := by omega
          exact ⟨by omega, h⟩
      · rintro ⟨q1, q2⟩
        by_cases e : k = N
        · right; rw [e]
        · left; exact ⟨by omega, q2⟩
    · rw [if_neg h, ih]
      constructor
      · rintro ⟨q1, q2⟩; exact ⟨by omega, q2⟩
      · rintro ⟨q1, q2⟩
        refine ⟨?_, q2⟩
        by_cases e : k = N
        · subst e; exact absurd q2 h
        · omega
theorem lat_pos {N : Nat} {pl : List Pc} {L : List Fr} (h : runK N pl L L.length = true) (hpl : ∀ p ∈ pl, 0 ≤ p.2.2.2) {k : Nat} (hk : k ≤ L.length) : ∀ i, i < k → 0 ≤ (latK pl L k).getD i 0 := by
  induction k with
  | zero => intro i hi; omega
  | succ k ih =>
    intro i hi
    show 0 ≤ (latK pl L k ++ [_]).getD i 0
    rw [snocF_getD, latK_len]
    have hb := eaT_bd (k := k) (by omega) h hpl
    by_cases h1 : i < k
    · rw [if_pos h1]; exact ih (by omega) i h1
    · rw [if_neg h1, if_pos (by omega)]; omega
end M
namespace V
set_option maxRecDepth 100000
open Go.RowKit
def VLF (L : List Int) (cd : Int) (w : World) (e : Ending) (w' : World) : Prop := ∃ a n cap, e = .returned (.tuple #[.slice a n cap, .int .i64 cd]) ∧ Own w' w.heap.size (.slice a n cap) L ∧ Below w.heap.size w w'
set_option maxRecDepth 100000 in
set_option maxHeartbeats 400000 in
theorem hasIntB (a : Option Addr) (n cap : Nat) (l : List Int) (x : Int) (b : Bool) (w : World) (h : Ints .i64 w a n l) (hb : x ∈ l ↔ b = true) :
    Calls Try.prog 38 #[.slice a n cap, .int .i64 x] w fun e w' => e = .returned (.bool b) ∧ w = w' := by
  have HI := Lib.hid h
  have HL : Hid (l.length = n) := h.1
  have hm := h.2.1
  unfold maxLen at hm
  have HB := Lib.hid hb
  clear h hb
  go_enter Try.func38, Try.ntmps38
  go_wp2
  go_loopw [5] (fun i wr => ∃ k : Nat, k ≤ n ∧ i = .int .i64 k ∧ Hid (∀ j, j < k → l.getD j 0 ≠ x) ∧ wr = w) (fun i _ => n - (intOf i).toNat)
  case atStart => exact ⟨0, Nat.zero_le _, rfl, fun j hj => absurd hj (Nat.not_lt_zero j), rfl⟩
  case round =>
    obtain ⟨k, hk, rfl, HN, rfl⟩ := hrel
    by_cases hkl : k < n
    · obtain ⟨bb, off, y, rfl, -, hy, hc⟩ := HI.out.at k hkl
      have hki : (k : Int) < (n : Int) := by omega
      have HY := Lib.hid hy
      clear hy
      by_cases e : y = x
      · have HT : Hid (b = true) := HB.out.1 (by
          rw [← e, HY.out, List.getD_eq_getElem?_getD, List.getElem?_eq_getElem (by rw [HL.out]; exact hkl)]
          exact List.getElem_mem _)
        have hne : (y == x) = true := by simpa using e
        clear e
        go_wp2
        go_ret
        exact ⟨by rw [HT.out]; rfl, rfl⟩
      · have hne : (y == x) = false := by simpa using e
        have HN2 : Hid (∀ j, j < k + 1 → l.getD j 0 ≠ x) := fun j hj => by
          rcases Nat.lt_or_ge j k with q | q
          · exact HN.out j q
          · rw [show j = k by omega, ← HY.out]; exact e
        clear e
        go_wp2
        go_roundw
        case rel => exact ⟨k + 1, by omega, by go_num, HN2, by first | rfl | trivial⟩
        case measure => simp [intOf]; omega
    · obtain rfl : k = n := by omega
      have HF : Hid (b = false) := by
        show _ = _
        rw [← Bool.not_eq_true]
        intro hb
        obtain ⟨j, hj, he⟩ := List.mem_iff_getElem.1 (HB.out.2 hb)
        refine HN.out j (by rw [← HL.out]; exact hj) ?_
        rw [List.getD_eq_getElem?_getD, List.getElem?_eq_getElem hj]
        exact he
      go_wp2
      go_ret
      exact ⟨by rw [HF.out]; rfl, rfl⟩
end V
end Go.Proofs.Ytjbffpmelglegaa
