/- The matrix of Bottom and the unit, in the program. -/
import Derived.Test.YtfdckijililomaaRows
import Derived.Test.YtfdckijililomaaMath1
import Derived.Test.YtfdckijililomaaList
import Derived.Test.YtfdckijililomaaMatM
import Derived.Test.YtfdckijililomaaHelp
import Derived.Test.YtfdckijililomaaRows0
import Derived.Test.YtfdckijililomaaOwn
import Derived.Test.YtfdckijililomaaMat0
import Derived.WalkKit
import Derived.ProofKit
import Derived.WalkSmall
import Derived.Deep.QuietTactic
import Derived.BigQuiet
import Derived.BigRegion
import Derived.Deep.Draws
import Derived.Lib.Hide
import Derived.OpenShut
import Derived.Deep.OwnRows
import Derived.Test.YtfdckijililomaaVals0
import Derived.Test.YtfdckijililomaaApp
import Derived.Test.YtfdckijililomaaSBot
import Derived.Test.YtfdckijililomaaVec
import Derived.Test.YtfdckijililomaaRepeat
namespace Go.Proofs.Ytfdckijililomaa.V
open Go.RowKit

set_option maxRecDepth 100000 in
set_option maxHeartbeats 1000000 in
theorem filled (m n : Nat) (x : Int) (w : World) (m1 : 1 ≤ m) (hm : m ≤ 10) (n1 : 1 ≤ n) (hn : n ≤ 10) :
    Calls Try.prog 173 #[.int .i64 m, .int .i64 n, .int .i64 x] w (MPost m (M.mk m n fun _ _ => x) w) := by
  have hmk := run_make_row' (P := Try.prog) 24 30 (.slice none 0 0) 24 Try.underlying24 infoS64 rfl .i64 .i64 m (by omega) (by omega)
  have hO0 : Hid (OwnM (w.alloc (.cells (madeCells #[.slice none 0 0] m) 30)) w.heap.size (.slice (some ⟨w.heap.size, 0, none⟩) m m) (List.replicate m [])) := ownM_made w _ m (Nat.le_refl _) (by unfold maxLen; omega)
  go_enter Try.func173, Try.ntmps173
  go_wp2
  clear hmk
  go_loopw [8, 13] (fun _ i wr => ∃ k : Nat, k ≤ m ∧ i = .int .i64 k ∧ OwnM wr w.heap.size (.slice (some ⟨w.heap.size, 0, none⟩) m m) ((List.range m).map fun j => if j < k then (List.range n).map (fun _ => x) else []) ∧ Below w.heap.size w wr) (fun _ i _ => m - (intOf i).toNat)
  case atStart =>
    refine ⟨0, Nat.zero_le _, rfl, (congrArg (OwnM _ _ _) ?_).mp hO0.out, b_alloc _ _⟩
    apply List.ext_getElem
    · simp
    · intro i h1 h2; simp
  case round =>
    obtain ⟨k, hk, rfl, hO, hb⟩ := hrel
    have HO := Lib.hid hO
    have HB := Lib.hid hb
    clear hO hb hO0
    by_cases hlt : k < m
    · have hki : (k : Int) < (m : Int) := by omega
      have hg := HO.out.lt rfl
      have hlit := one_lit wr x
      go_wp2_with fail
      refine (repeat1 wr.heap.size n 1 x _ n1 hn hlit (by simp)).mono ?_
      rintro e w1 ⟨rfl, ho1, hb1⟩
      have hb1' : Below wr.heap.size wr w1 := (b_alloc wr _).trans (hb1.mono (by simp))
      rw [show (wr.alloc (.cells #[.int .i64 x] 2)).heap.size = wr.heap.size + 1 by simp] at ho1
      have ho1' := ho1.mono (Nat.le_succ _)
      have hst : ∃ v, w1.cell? ⟨w.heap.size, k, none⟩ = some v := by
        obtain ⟨v, hv⟩ := HO.out.outer k hlt
        exact ⟨v, by rw [hb1'.cell (p := ⟨w.heap.size, k, none⟩) hg]; exact hv⟩
      obtain ⟨v, hst⟩ := hst
      have hfz : w1.frozen? ⟨w.heap.size, k, none⟩ = false := by rw [hb1'.frozen (p := ⟨w.heap.size, k, none⟩) hg]; exact HO.out.outerFz k
      have HN := Lib.hid (HO.out.setRow hb1' HB.out.size ho1' k hlt)
      have HB1 := Lib.hid (bnext HB.out hb1')
      clear ho1 hb1 hg hlit hb1' ho1'
      go_wp2
      go_roundw
      case rel =>
        refine ⟨k + 1, by omega, by go_num, ?_, HB1.out.setCell (Nat.le_refl _) _⟩
        refine (congrArg (OwnM _ _ _) ?_).mp HN.out
        apply List.ext_getElem
        · simp
        · intro j h1 h2
          simp only [List.length_map, List.length_range] at h2
          rw [List.getElem_set]
          simp only [List.getElem_map, List.getElem_range]
          by_cases e : k = j
          · subst e; rw [if_pos rfl, if_pos (by omega)]
          · rw [if_neg e]
            by_cases e2 : j < k
            · rw [if_pos e2, if_pos (by omega)]
            · rw [if_neg e2, if_neg (by omega)]
      case measure => simp [intOf]; omega
    · have hkn : k = m := by omega
      subst hkn
      go_wp2
      go_ret
      refine ⟨_, _, rfl, (congrArg (OwnM _ _ _) ?_).mp HO.out, HB.out⟩
      unfold M.mk
      exact List.map_congr_left fun j hj => by rw [if_pos (List.mem_range.1 hj)]

set_option maxRecDepth 100000 in
set_option maxHeartbeats 1000000 in
theorem unitOf (n : Nat) (w : World) (n1 : 1 ≤ n) (hn : n ≤ 10) :
    Calls Try.prog 138 #[.int .i64 n] w (MPost n (M.unitM n) w) := by
  go_enter Try.func138, Try.ntmps138
  go_wp2_with fail
  refine (filled n n _ _ n1 hn n1 hn).mono ?_
  rintro e w1 ⟨a, cap, rfl, hO, hb⟩
  have hO' : OwnM w1 w.heap.size (.slice a n cap) (M.mk n n fun i j => if i = j ∧ i < 0 then 0 else -1000000000000000) :=
    (congrArg (OwnM _ _ _) (M.mk_congr fun i _ j _ => by rw [if_neg (by omega)])).mp hO
  have HO0 := Lib.hid hO'
  have HB0 := Lib.hid hb
  clear hO hb hO'
  go_wp2
  go_loopw [4, 10] (fun _ i wr => ∃ k : Nat, k ≤ n ∧ i = .int .i64 k ∧ OwnM wr w.heap.size (.slice a n cap) (M.mk n n fun i j => if i = j ∧ i < k then 0 else -1000000000000000) ∧ Below w.heap.size w wr) (fun _ i _ => n - (intOf i).toNat)
  case atStart => exact ⟨0, Nat.zero_le _, rfl, HO0.out, HB0.out⟩
  case round =>
    obtain ⟨k, hk, rfl, hO, hb⟩ := hrel
    have HO := Lib.hid hO
    have HB := Lib.hid hb
    clear hO hb
    by_cases hlt : k < n
    · obtain ⟨g, q, L, c, x, rfl, hg, hq, hL, hx, h1, h2, h3, h4⟩ := HO.out.at k k hlt (by rw [M.mk_rowlen _ _ _ _ hlt]; exact hlt)
      rw [M.mk_rowlen _ _ _ _ hlt] at hL
      obtain rfl : n = L := hL.symm
      have hN := h4 0
      rw [M.mk_set _ _ _ _ _ _ hlt] at hN
      have HN := Lib.hid hN
      have hki : (k : Int) < (n : Int) := by omega
      clear hx h4 hN
      go_wp2
      go_roundw
      case rel =>
        refine ⟨k + 1, by omega, by go_num, (congrArg (OwnM _ _ _) (M.mk_congr fun i _ j _ => ?_)).mp HN.out, HB.out.setCell hq _⟩
        by_cases e : i = k
        · subst e
          by_cases e2 : j = i
          · subst e2; simp
          · rw [if_pos rfl, if_neg e2, if_neg (by omega), if_neg (by omega)]
        · rw [if_neg e]
          by_cases e2 : i = j ∧ i < k
          · rw [if_pos e2, if_pos (by omega)]
          · rw [if_neg e2, if_neg (by omega)]
      case measure => simp [intOf]; omega
    · obtain rfl : k = n := by omega
      go_wp2
      go_ret
      refine ⟨_, _, rfl, (congrArg (OwnM _ _ _) (M.mk_congr fun i hi j _ => ?_)).mp HO.out, HB.out⟩
      by_cases e : i = j
      · rw [if_pos ⟨e, hi⟩, if_pos e]
      · rw [if_neg (by omega), if_neg e]

set_option maxRecDepth 100000 in
set_option maxHeartbeats 400000 in
theorem unitMatrix (n : Int) (w : World) : Calls Try.prog 77 #[.int .i64 n] w (MRes (M.unitRes n) w) := by
  by_cases hz : 1 ≤ n ∧ n ≤ 10
  · have hd : (decide ((1 : Int) ≤ n) && decide ((n : Int) ≤ 10)) = true := by simp; omega
    obtain ⟨k, rfl⟩ := Int.eq_ofNat_of_zero_le (show 0 ≤ n by omega)
    have HR : Hid (M.unitRes (k : Int) = (M.unitM k, 0)) := by show _ = _; unfold M.unitRes; rw [if_pos hz]; rfl
    have k1 : 1 ≤ k := by omega
    have hk : k ≤ 10 := by omega
    clear hz
    go_enter Try.func77, Try.ntmps77
    go_wp2_with (go_at_call 137; refine (isSize _ _).mono ?_; rintro e w' ⟨rfl, rfl⟩)
    refine (unitOf k _ k1 hk).mono ?_
    rintro e w1 ⟨a, cap, rfl, hO, hb⟩
    have HO := Lib.hid hO
    have HB := Lib.hid hb
    clear hO hb
    go_wp2
    go_ret2
    rw [HR.out]
    exact ⟨_, _, _, rfl, HO.out, HB.out⟩
  · have hd : (decide ((1 : Int) ≤ n) && decide ((n : Int) ≤ 10)) = false := by rw [Bool.and_eq_false_iff]; simp; omega
    have HR : Hid (M.unitRes n = ([], 2)) := by show _ = _; unfold M.unitRes; rw [if_neg hz]
    go_enter Try.func77, Try.ntmps77
    go_wp2_with (first | (go_at_call 137; refine (isSize _ _).mono ?_; rintro e w' ⟨rfl, rfl⟩))
    go_ret2
    exact MRes.nil HR.out (Below.refl _ _)

end Go.Proofs.Ytfdckijililomaa.V
