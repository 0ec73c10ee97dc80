/- Texts laid together: Repeat, IBot, Hv1, Fix1. -/
import Derived.Test.YtjljplolonpldabRows
import Derived.Test.YtjljplolonpldabQb1
import Derived.Test.YtjljplolonpldabQb2
import Derived.WalkKit
import Derived.ProofKit
import Derived.WalkSmall
import Derived.Deep.QuietTactic
import Derived.BigQuiet
import Derived.BigRegion
import Derived.Deep.Draws
import Derived.Lib.Hide
import Derived.OpenShut
import Derived.Deep.OwnRows
import Derived.Laws.CopyOwn
import Derived.Deep.RegionLaw
import Derived.IntWalk
import Derived.Maps.AppendAt
import Derived.StillTailTactics
import Derived.Deep.RegionHeld3
import Derived.Test.YtjljplolonpldabQb3
import Derived.Test.YtjljplolonpldabQb14
import Derived.Test.YtjljplolonpldabQb5
import Derived.Test.YtjljplolonpldabQb4
import Derived.Test.YtjljplolonpldabQb6
set_option linter.unusedSimpArgs false
set_option linter.unusedVariables false
set_option linter.unusedSectionVars false
namespace Go.Proofs.Ytjljplolonpldab.V
open Go.RowKit

set_option maxRecDepth 100000 in
set_option maxHeartbeats 1000000 in
theorem mul64 (n : Nat) (w : World) (h1 : 1 ≤ n) (h2 : n ≤ 10) : Calls Try.prog 148 #[.int .u64 1, .int .u64 n] w fun e w' => e = .returned (.tuple #[.int .u64 0, .int .u64 n]) ∧ w = w' := by
  have hn : n = 1 ∨ n = 2 ∨ n = 3 ∨ n = 4 ∨ n = 5 ∨ n = 6 ∨ n = 7 ∨ n = 8 ∨ n = 9 ∨ n = 10 := by omega
  clear h1 h2
  rcases hn with rfl | rfl | rfl | rfl | rfl | rfl | rfl | rfl | rfl | rfl
  all_goals
    go_enter Try.func148, Try.ntmps148
    go_wp2
    go_ret2
    exact ⟨rfl, rfl⟩

set_option maxRecDepth 100000 in
set_option maxHeartbeats 1000000 in
theorem mulU (n : Nat) (w : World) (h1 : 1 ≤ n) (h2 : n ≤ 10) : Calls Try.prog 144 #[.int .u64 1, .int .u64 n] w fun e w' => e = .returned (.tuple #[.int .u64 0, .int .u64 n]) ∧ w = w' := by
  go_enter Try.func144, Try.ntmps144
  go_wp2_with (first | (go_at_call 148; refine (mul64 _ _ h1 h2).mono ?_; rintro e w' ⟨rfl, rfl⟩))
  go_ret2
  exact ⟨rfl, rfl⟩

/-- A row of n integers of which the first k are x. -/
def repL (x : Int) (k n : Nat) : List Value := List.replicate k (.int .i64 x) ++ List.replicate (n - k) (.int .i64 0)
theorem repL_splice (x : Int) (k n m : Nat) (hk : k ≤ n) (hm : k + m ≤ n) : splice (repL x k n) k (List.replicate m (.int .i64 x)) = repL x (k + m) n := by
  unfold splice repL
  rw [List.take_left' (by simp), List.drop_append, List.length_replicate, List.length_replicate]
  have e1 : List.drop (k + m) (List.replicate k (Value.int IntKind.i64 x)) = [] := by simp
  rw [e1, List.nil_append, List.drop_replicate, ← List.append_assoc, List.replicate_append_replicate]
  congr 2
  omega
theorem repL_made (x : Int) (n : Nat) : (madeCells #[.int .i64 0] n) = (repL x 0 n).toArray := by
  apply Array.ext'
  rw [toList_madeCells_one]
  simp [repL]
theorem own_repL (w : World) (B g n : Nat) (x : Int) (hg : w.heap[g]? = some (.cells (repL x n n).toArray 2 (0, 0))) (hB : B ≤ g) (hn : n ≤ maxLen) : Own w B (.slice (some ⟨g, 0, none⟩) n n) ((List.range n).map fun _ => x) := by
  refine ⟨by simp, .inr ⟨g, n, _, by simp, hB, hg, by simp, hn, by simp [repL], ?_⟩⟩
  simp [repL]
  apply List.ext_getElem
  · simp
  · intro i h1 h2; simp

theorem one_cell {w : World} {a : Addr} {u : Value} (h : w.cell? a = some u) : ∀ j v, [u][j]? = some v → w.cell? (a.add j) = some v := by
  intro j v hj
  match j, hj with
  | 0, hj =>
    simp at hj
    subst hj
    simpa [Addr.add] using h
theorem one_one {x : Int} : ∀ v ∈ [Value.int IntKind.i64 x], v.oneCell' = true := by
  intro v hv; simp at hv; subst hv; rfl

theorem one_lit (w : World) (x : Int) : (w.alloc (.cells #[.int .i64 x] 2)).cell? ⟨w.heap.size, 0, none⟩ = some (.int .i64 x) := cell_one_new w (.int .i64 x) _ 0 _ rfl
theorem rep_one {x : Int} {m : Nat} : ∀ v ∈ List.replicate m (Value.int IntKind.i64 x), v.oneCell' = true := by
  intro v hv; rw [List.mem_replicate] at hv; rw [hv.2]; rfl
theorem rep_cells {w : World} {g k n m : Nat} {x : Int} {T : TypeId} (h : w.heap[g]? = some (.cells (repL x k n).toArray T (0, 0))) (hk : k ≤ n) (hm : m ≤ k) : ∀ j v, (List.replicate m (Value.int IntKind.i64 x))[j]? = some v → w.cell? ((⟨g, 0, none⟩ : Addr).add j) = some v := by
  intro j v hj
  rw [List.getElem?_replicate] at hj
  split at hj
  · next hlt =>
    injection hj with hj
    subst hj
    have e : (⟨g, 0, none⟩ : Addr).add j = ⟨g, j, none⟩ := by cases j <;> simp [Addr.add]
    rw [e]
    simp only [World.cell?, h]
    simp [repL, List.getElem?_append, show j < k by omega]
  · cases hj

set_option maxRecDepth 100000 in
set_option maxHeartbeats 1000000 in
theorem repeat1 (g n cap : Nat) (x : Int) (w : World) (h1 : 1 ≤ n) (h2 : n ≤ 10) (hc : w.cell? ⟨g, 0, none⟩ = some (.int .i64 x)) (hg : g < w.heap.size) :
    Calls Try.prog 139 #[.slice (some ⟨g, 0, none⟩) 1 cap, .int .i64 n] w fun e w' => e = .returned (.slice (some ⟨w.heap.size, 0, none⟩) n n) ∧ Own w' w.heap.size (.slice (some ⟨w.heap.size, 0, none⟩) n n) ((List.range n).map fun _ => x) ∧ Below w.heap.size w w' := by
  have hmk := run_make_row' (P := Try.prog) 29 2 (.int .i64 0) 8 Try.underlying29 info64 rfl .i64 .i64 n (by omega) (by omega)
  have HC := Lib.hid hc
  have hsz : (Try.prog.info? 2).map (·.size) = some 1 := by kernel_rfl
  have HS := Lib.hid hsz
  clear hc hsz
  go_enter Try.func139, Try.ntmps139
  go_wp2_with fail
  refine (mulU n _ h1 h2).mono ?_
  rintro e w' ⟨rfl, rfl⟩
  have hW1 : Hid ((w.alloc (.cells (madeCells #[.int .i64 0] n) 2)).heap[w.heap.size]? = some (.cells (repL x 0 n).toArray 2 (0, 0))) := by
    show _ = _
    rw [repL_made x n]
    show (w.heap.push _)[w.heap.size]? = _
    simp
  have hcell : Hid ((w.alloc (.cells (madeCells #[.int .i64 0] n) 2)).cell? ⟨g, 0, none⟩ = some (.int .i64 x)) := by
    show _ = _
    rw [(b_alloc w _).cell (p := ⟨g, 0, none⟩) hg]; exact HC.out
  go_wp2_with (with_reducible refine wpList_copy_splice rfl (.tmp 31) (.tmp 32) 29 29 rfl 2 Try.underlying29 HS.out (some ⟨w.heap.size, 0, none⟩) (some ⟨g, 0, none⟩) n n 1 cap rfl rfl w.heap.size 0 (repL x 0 n) 2 hW1.out [.int .i64 x] ?hn ?hpos ?hfit ?hone w.heap.size w (b_alloc w _) (Nat.le_refl _) ?_)
  case hn => exact (Nat.min_eq_left h1).symm
  case hpos =>
    intro j v hj
    match j, hj with
    | 0, hj =>
      simp at hj
      subst hj
      exact HC.out
  case hfit => simp [repL]; omega
  case hone => exact one_one
  intro w1 hg1 hb1
  have HG1 : Hid (w1.heap[w.heap.size]? = some (.cells (repL x 1 n).toArray 2 (0, 0))) := by
    have := hg1.out
    rw [show [Value.int .i64 x] = List.replicate 1 (.int .i64 x) from rfl, repL_splice x 0 n 1 (by omega) (by omega)] at this
    exact this
  have HB1 := Lib.hid hb1
  clear hg1 hb1 hW1 hcell
  go_wp2
  go_loopw [8] (fun i wr => ∃ k : Nat, 1 ≤ k ∧ k ≤ n ∧ i = .int .i64 k ∧ Hid (wr.heap[w.heap.size]? = some (.cells (repL x k n).toArray 2 (0, 0))) ∧ Below w.heap.size w wr) (fun i _ => n - (intOf i).toNat)
  case atStart => exact ⟨1, Nat.le_refl _, h1, rfl, HG1, HB1.out⟩
  case round =>
    obtain ⟨k, hk1, hk, rfl, HG, hb⟩ := hrel
    have HB := Lib.hid hb
    clear hb
    by_cases hlt : k < n
    · have hne : ¬ n = k := by omega
      have hki : (k : Int) < (n : Int) := by omega
      have hkn : k ≤ n := by omega
      go_wp2
      obtain ⟨m, hm⟩ : ∃ m, m = min k (n - k) := ⟨_, rfl⟩
      have hm1 : 1 ≤ m := by omega
      have hm2 : m ≤ k := by omega
      have hm3 : k + m ≤ n := by omega
      have HM := Lib.hid (rep_cells (x := x) HG.out hkn hm2)
      have HMm := Lib.hid hm
      have HN := Lib.hid (repL_splice x k n m hkn hm3)
      clear hm
      have hw : IntKind.i64.wrap ((k : Int) + (m : Int)) = (k : Int) + (m : Int) := IntWalk.i64_in _ (by omega)
      go_region_law (refine step_copy_splice rfl (.tmp 41) (.tmp 44) 29 29 rfl 2 Try.underlying29 HS.out (some ⟨w.heap.size, k, none⟩) (some ⟨w.heap.size, 0, none⟩) (n - k) (n - k) k n (by go_simp) (by go_simp) w.heap.size k (repL x k n) 2 HG.out (List.replicate m (.int .i64 x)) (by rw [List.length_replicate]; exact HMm.out) (fun _ => ⟨rfl, _, rfl, HM.out⟩) (by simp [repL]; omega) rep_one w.heap.size w HB.out.drew (Nat.le_refl _) ?_; intro w4 hg4 hb4)
      have HG4 : Hid (w4.heap[w.heap.size]? = some (.cells (repL x (k + m) n).toArray 2 (0, 0))) := by
        have := hg4.out
        rw [HN.out] at this
        exact this
      have HB4 := Lib.hid hb4
      clear hg4 hb4 hw
      go_simp
      go_wp2
      go_roundw
      case rel => exact ⟨k + m, by omega, by omega, vi (by omega), HG4, HB4.out⟩
      case measure => simp [intOf]; omega
    · obtain rfl : k = n := by omega
      go_wp2
      go_ret
      exact ⟨rfl, own_repL _ _ _ _ _ HG.out (Nat.le_refl _) (by unfold maxLen; omega), HB.out⟩
end Go.Proofs.Ytjljplolonpldab.V

namespace Go.Proofs.Ytjljplolonpldab.V
open Go.RowKit

set_option maxRecDepth 100000 in
set_option maxHeartbeats 1000000 in
theorem filled (m n : Nat) (x : Int) (w : World) (m1 : 1 ≤ m) (hm : m ≤ 10) (n1 : 1 ≤ n) (hn : n ≤ 10) :
    Calls Try.prog 124 #[.int .i64 m, .int .i64 n, .int .i64 x] w (MPost m (M.mk m n fun _ _ => x) w) := by
  have hmk := run_make_row' (P := Try.prog) 22 29 (.slice none 0 0) 24 Try.underlying22 infoS64 rfl .i64 .i64 m (by omega) (by omega)
  have hO0 : Hid (OwnM (w.alloc (.cells (madeCells #[.slice none 0 0] m) 29)) w.heap.size (.slice (some ⟨w.heap.size, 0, none⟩) m m) (List.replicate m [])) := ownM_made w _ m (Nat.le_refl _) (by unfold maxLen; omega)
  go_enter Try.func124, Try.ntmps124
  go_wp2
  clear hmk
  go_loopw [8, 13] (fun _ i wr => ∃ k : Nat, k ≤ m ∧ i = .int .i64 k ∧ OwnM wr w.heap.size (.slice (some ⟨w.heap.size, 0, none⟩) m m) ((List.range m).map fun j => if j < k then (List.range n).map (fun _ => x) else []) ∧ Below w.heap.size w wr) (fun _ i _ => m - (intOf i).toNat)
  case atStart =>
    refine ⟨0, Nat.zero_le _, rfl, (congrArg (OwnM _ _ _) ?_).mp hO0.out, b_alloc _ _⟩
    apply List.ext_getElem
    · simp
    · intro i h1 h2; simp
  case round =>
    obtain ⟨k, hk, rfl, hO, hb⟩ := hrel
    have HO := Lib.hid hO
    have HB := Lib.hid hb
    clear hO hb hO0
    by_cases hlt : k < m
    · have hki : (k : Int) < (m : Int) := by omega
      have hg := HO.out.lt rfl
      have hlit := one_lit wr x
      go_wp2_with fail
      refine (repeat1 wr.heap.size n 1 x _ n1 hn hlit (by simp)).mono ?_
      rintro e w1 ⟨rfl, ho1, hb1⟩
      have hb1' : Below wr.heap.size wr w1 := (b_alloc wr _).trans (hb1.mono (by simp))
      rw [show (wr.alloc (.cells #[.int .i64 x] 2)).heap.size = wr.heap.size + 1 by simp] at ho1
      have ho1' := ho1.mono (Nat.le_succ _)
      have hst : ∃ v, w1.cell? ⟨w.heap.size, k, none⟩ = some v := by
        obtain ⟨v, hv⟩ := HO.out.outer k hlt
        exact ⟨v, by rw [hb1'.cell (p := ⟨w.heap.size, k, none⟩) hg]; exact hv⟩
      obtain ⟨v, hst⟩ := hst
      have hfz : w1.frozen? ⟨w.heap.size, k, none⟩ = false := by rw [hb1'.frozen (p := ⟨w.heap.size, k, none⟩) hg]; exact HO.out.outerFz k
      have HN := Lib.hid (HO.out.setRow hb1' HB.out.size ho1' k hlt)
      have HB1 := Lib.hid (bnext HB.out hb1')
      clear ho1 hb1 hg hlit hb1' ho1'
      go_wp2
      go_roundw
      case rel =>
        refine ⟨k + 1, by omega, by go_num, ?_, HB1.out.setCell (Nat.le_refl _) _⟩
        refine (congrArg (OwnM _ _ _) ?_).mp HN.out
        apply List.ext_getElem
        · simp
        · intro j h1 h2
          simp only [List.length_map, List.length_range] at h2
          rw [List.getElem_set]
          simp only [List.getElem_map, List.getElem_range]
          by_cases e : k = j
          · subst e; rw [if_pos rfl, if_pos (by omega)]
          · rw [if_neg e]
            by_cases e2 : j < k
            · rw [if_pos e2, if_pos (by omega)]
            · rw [if_neg e2, if_neg (by omega)]
      case measure => simp [intOf]; omega
    · have hkn : k = m := by omega
      subst hkn
      go_wp2
      go_ret
      refine ⟨_, _, rfl, (congrArg (OwnM _ _ _) ?_).mp HO.out, HB.out⟩
      unfold M.mk
      exact List.map_congr_left fun j hj => by rw [if_pos (List.mem_range.1 hj)]

set_option maxRecDepth 100000 in
set_option maxHeartbeats 1000000 in
theorem unitOf (n : Nat) (w : World) (n1 : 1 ≤ n) (hn : n ≤ 10) :
    Calls Try.prog 94 #[.int .i64 n] w (MPost n (M.unitM n) w) := by
  go_enter Try.func94, Try.ntmps94
  go_wp2_with fail
  refine (filled n n _ _ n1 hn n1 hn).mono ?_
  rintro e w1 ⟨a, cap, rfl, hO, hb⟩
  have hO' : OwnM w1 w.heap.size (.slice a n cap) (M.mk n n fun i j => if i = j ∧ i < 0 then 0 else -1000000000000000) :=
    (congrArg (OwnM _ _ _) (M.mk_congr fun i _ j _ => by rw [if_neg (by omega)])).mp hO
  have HO0 := Lib.hid hO'
  have HB0 := Lib.hid hb
  clear hO hb hO'
  go_wp2
  go_loopw [4, 10] (fun _ i wr => ∃ k : Nat, k ≤ n ∧ i = .int .i64 k ∧ OwnM wr w.heap.size (.slice a n cap) (M.mk n n fun i j => if i = j ∧ i < k then 0 else -1000000000000000) ∧ Below w.heap.size w wr) (fun _ i _ => n - (intOf i).toNat)
  case atStart => exact ⟨0, Nat.zero_le _, rfl, HO0.out, HB0.out⟩
  case round =>
    obtain ⟨k, hk, rfl, hO, hb⟩ := hrel
    have HO := Lib.hid hO
    have HB := Lib.hid hb
    clear hO hb
    by_cases hlt : k < n
    · obtain ⟨g, q, L, c, x, rfl, hg, hq, hL, hx, h1, h2, h3, h4⟩ := HO.out.at k k hlt (by rw [M.mk_rowlen _ _ _ _ hlt]; exact hlt)
      rw [M.mk_rowlen _ _ _ _ hlt] at hL
      obtain rfl : n = L := hL.symm
      have hN := h4 0
      rw [M.mk_set _ _ _ _ _ _ hlt] at hN
      have HN := Lib.hid hN
      have hki : (k : Int) < (n : Int) := by omega
      clear hx h4 hN
      go_wp2
      go_roundw
      case rel =>
        refine ⟨k + 1, by omega, by go_num, (congrArg (OwnM _ _ _) (M.mk_congr fun i _ j _ => ?_)).mp HN.out, HB.out.setCell hq _⟩
        by_cases e : i = k
        · subst e
          by_cases e2 : j = i
          · subst e2; simp
          · rw [if_pos rfl, if_neg e2, if_neg (by omega), if_neg (by omega)]
        · rw [if_neg e]
          by_cases e2 : i = j ∧ i < k
          · rw [if_pos e2, if_pos (by omega)]
          · rw [if_neg e2, if_neg (by omega)]
      case measure => simp [intOf]; omega
    · obtain rfl : k = n := by omega
      go_wp2
      go_ret
      refine ⟨_, _, rfl, (congrArg (OwnM _ _ _) (M.mk_congr fun i hi j _ => ?_)).mp HO.out, HB.out⟩
      by_cases e : i = j
      · rw [if_pos ⟨e, hi⟩, if_pos e]
      · rw [if_neg (by omega), if_neg e]

set_option maxRecDepth 100000 in
set_option maxHeartbeats 400000 in
theorem unitMatrix (n : Int) (w : World) : Calls Try.prog 45 #[.int .i64 n] w (MRes (M.unitRes n) w) := by
  by_cases hz : 1 ≤ n ∧ n ≤ 10
  · have hd : (decide ((1 : Int) ≤ n) && decide ((n : Int) ≤ 10)) = true := by simp; omega
    obtain ⟨k, rfl⟩ := Int.eq_ofNat_of_zero_le (show 0 ≤ n by omega)
    have HR : Hid (M.unitRes (k : Int) = (M.unitM k, 0)) := by show _ = _; unfold M.unitRes; rw [if_pos hz]; rfl
    have k1 : 1 ≤ k := by omega
    have hk : k ≤ 10 := by omega
    clear hz
    go_enter Try.func45, Try.ntmps45
    go_wp2_with (go_at_call 93; refine (isSize _ _).mono ?_; rintro e w' ⟨rfl, rfl⟩)
    refine (unitOf k _ k1 hk).mono ?_
    rintro e w1 ⟨a, cap, rfl, hO, hb⟩
    have HO := Lib.hid hO
    have HB := Lib.hid hb
    clear hO hb
    go_wp2
    go_ret2
    rw [HR.out]
    exact ⟨_, _, _, rfl, HO.out, HB.out⟩
  · have hd : (decide ((1 : Int) ≤ n) && decide ((n : Int) ≤ 10)) = false := by rw [Bool.and_eq_false_iff]; simp; omega
    have HR : Hid (M.unitRes n = ([], 2)) := by show _ = _; unfold M.unitRes; rw [if_neg hz]
    go_enter Try.func45, Try.ntmps45
    go_wp2_with (first | (go_at_call 93; refine (isSize _ _).mono ?_; rintro e w' ⟨rfl, rfl⟩))
    go_ret2
    exact MRes.nil HR.out (Below.refl _ _)

end Go.Proofs.Ytjljplolonpldab.V

namespace Go.Proofs.Ytjljplolonpldab.V
open Go.RowKit

theorem OwnM.caps {w : World} {B n cap : Nat} {a : Option Addr} {R : List (List Int)} (h : OwnM w B (.slice a n cap) R) : n ≤ cap ∧ cap ≤ maxLen := by
  obtain ⟨V, h1, h2, _⟩ := h
  obtain ⟨a', c', hv, k1, k2, _⟩ := own_form h2
  injection hv with e1 e2 e3
  subst e2 e3
  exact ⟨k1, k2⟩
/-- One row of an owned matrix, as a list of its own. -/
theorem OwnM.row {w : World} {B n cap : Nat} {a : Option Addr} {R : List (List Int)} (h : OwnM w B (.slice a n cap) R) (i : Nat) (hi : i < n) :
    ∃ g ra rc, a = some ⟨g, 0, none⟩ ∧ w.cell? ⟨g, i, none⟩ = some (.slice ra (R.getD i []).length rc) ∧ Own w B (.slice ra (R.getD i []).length rc) (R.getD i []) := by
  have hl := h.len
  obtain ⟨V, h1, h2, h3, h4, h5⟩ := h
  obtain ⟨a', c', hv, hc, hm, hg⟩ := own_form h2
  injection hv with e1 e2 e3
  subst e1 e2 e3
  obtain ⟨g, rfl, hB, hlt⟩ := hg (by omega)
  have hr := h3 i (by omega)
  obtain ⟨ra, rc, hrv, _⟩ := own_form hr
  rw [hrv] at hr
  refine ⟨g, ra, rc, rfl, ?_, hr⟩
  rw [World.ownsRow.cellAt h2 i (by omega), ← hrv]
  simp [show i < V.length by omega]
theorem ownM_lit1 (w : World) (B : Nat) (hB : B ≤ w.heap.size) {rv : Value} {l : List Int} (ho : Own w B rv l) : OwnM (w.alloc (.cells #[rv] 29)) B (.slice (some ⟨w.heap.size, 0, none⟩) 1 1) [l] := by
  refine ⟨[rv], rfl, World.ownsRow_lit w #[rv] 1 hB (by decide) rfl, fun i hi => ?_, fun i hi k hk => ?_, fun i j hi hj hne => ?_⟩
  · obtain rfl : i = 0 := by simp at hi; omega
    exact ho.below (b_alloc w _)
  · obtain rfl : i = 0 := by simp at hi; omega
    have := (own_lt ho hk).2
    intro e
    simp only [Value.ownBlock, Option.some.injEq] at e
    omega
  · simp at hi hj; omega
/-- A part of one row. -/
theorem mat_sub {w : World} {b off n : Nat} {R : List (List Int)} (h : Mat w (some ⟨b, off, none⟩) n R) (k : Nat) (hk : k < n) : Mat w (some ⟨b, off + k, none⟩) 1 [R.getD k []] := by
  obtain ⟨h1, h2, h3⟩ := h
  refine ⟨rfl, by decide, .inr ?_⟩
  rcases h3 with h3 | ⟨b', off', e, hlt, hc⟩
  · omega
  · injection e with e
    injection e with e1 e2
    subst e1 e2
    refine ⟨b, off + k, rfl, hlt, fun i hi => ?_⟩
    obtain rfl : i = 0 := by omega
    obtain ⟨ra, rc, hr, hI⟩ := hc k hk
    exact ⟨ra, rc, hr, hI⟩
/-- The weights to a node, one row for each number of arcs. -/
def M.wtM (A : Nat → Nat → Int) (n t k : Nat) : List (List Int) := M.mk k n fun s j => M.cpw A n s t j
theorem M.wt_row (A : Nat → Nat → Int) (n t k s : Nat) (h : s < k) : (M.wtM A n t k).getD s [] = (List.range n).map fun j => M.cpw A n s t j := M.mk_row _ _ _ _ h
theorem M.wt_next (R : List (List Int)) (n t s : Nat) : (M.mk 1 n (fun i j => M.dot [(List.range n).map fun j => M.cpw (M.ent R) n s t j] R i j n)).getD 0 [] = (List.range n).map fun j => M.cpw (M.ent R) n (s + 1) t j := by
  rw [M.mk_row _ _ _ _ (by omega)]
  refine List.map_congr_left fun j _ => ?_
  unfold M.dot
  refine M.sumN_congr fun u hu => ?_
  congr 1
  unfold M.ent
  simp [hu]

set_option maxRecDepth 100000 in
set_option maxHeartbeats 1000000 in
theorem weightsTo (a : Option Addr) (n cap : Nat) (R : List (List Int)) (f t m : Nat) (y : Int) (w : World) (h : Sq w a n R) (hf : f < n) (ht : t < n) (hm : m ≤ 10) (hy : M.cpw (M.ent R) n m t f = y) (hlt : ∀ s, s < m → M.cpw (M.ent R) n s t f ≠ y) :
    Calls Try.prog 80 #[.slice a n cap, .int .i64 f, .int .i64 t, .int .i64 y] w (MPost (m + 1) (M.wtM (M.ent R) n t (m + 1)) w) := by
  have HS := Lib.hid h
  obtain ⟨n1, n2⟩ := h.2.2.2
  have HSm : Hid (∀ i j, i < n → j < n → M.Sm 1000001000000 (M.ent R i j)) := h.2.2.1
  have HRB : Hid (∀ i j, i < n → j < n → M.Big (M.ent R i j)) := fun i j hi hj => M.big_sm (HSm.out i j hi hj) (by omega)
  have HY := Lib.hid hy
  have HLT := Lib.hid hlt
  have hti : (t : Int) < (n : Int) := by omega
  have hfi : (f : Int) < (n : Int) := by omega
  clear h hy hlt
  go_enter Try.func80, Try.ntmps80
  go_wp2_with fail
  refine (unitOf n _ n1 n2).mono ?_
  rintro e w1 ⟨a1, c1, rfl, hO, hb⟩
  obtain ⟨g1, ra, rc, rfl, hc1, hr1⟩ := hO.row t ht
  have erow : (M.unitM n).getD t [] = (List.range n).map fun j => M.cpw (M.ent R) n 0 t j := M.mk_row _ _ _ _ ht
  rw [erow] at hr1 hc1
  rw [List.length_map, List.length_range] at hr1 hc1
  have HO0 : Hid (OwnM (w1.alloc (.cells #[.slice ra n rc] 29)) w.heap.size (.slice (some ⟨w1.heap.size, 0, none⟩) 1 1) (M.wtM (M.ent R) n t 1)) := ownM_lit1 w1 _ hb.size hr1
  have HB0 : Hid (Below w.heap.size w (w1.alloc (.cells #[.slice ra n rc] 29))) := hb.alloc hb.size _
  clear hO hb hr1 erow
  go_wp2
  clear hc1
  go_loopw [9, 10] (fun o _ wr => ∃ (s : Nat) (b : Option Addr) (c : Nat), s ≤ m ∧ o = .slice b (s + 1) c ∧ OwnM wr w.heap.size (.slice b (s + 1) c) (M.wtM (M.ent R) n t (s + 1)) ∧ Below w.heap.size w wr) (fun o _ _ => match o with | .slice _ k _ => m + 1 - k | _ => 0)
  case atStart => exact ⟨0, _, _, Nat.zero_le _, rfl, HO0.out, HB0.out⟩
  case round =>
    obtain ⟨s, b, c, hs, rfl, hO, hb⟩ := hrel
    obtain ⟨wo, rfl⟩ : ∃ x, x = wr := ⟨_, rfl⟩
    have HO := Lib.hid hO
    have HB := Lib.hid hb
    have hzo : w.heap.size ≤ wo.heap.size := hb.size
    obtain ⟨g, rr, rrc, rfl, hcr, hrow⟩ := hO.row s (by omega)
    rw [M.wt_row _ _ _ _ _ (Nat.lt_succ_self s), List.length_map, List.length_range] at hcr hrow
    obtain ⟨d, od, x, hd, -, hx, cx⟩ := hrow.ints'.at f hf
    have hx2 : x = M.cpw (M.ent R) n s t f := by rw [hx]; simp [hf]
    have HX := Lib.hid hx2
    have hd2 : rr = some ⟨d, od, none⟩ := hd
    subst hd2
    have hcp := hO.caps
    obtain ⟨hcp1, hcp2⟩ := hcp
    have hcs : ¬ c = s := by omega
    unfold maxLen at hcp2
    have hi1 : ((s : Int) + 1 - 1) = (s : Int) := by omega
    clear hO hb HO0 HB0 hx hx2
    by_cases hlt : s < m
    · have hne : (x == y) = false := by
        have := HLT.out s hlt
        rw [← HX.out] at this
        simpa using this
      have HL1 : Hid (Mat wo (some ⟨g, 0 + s, none⟩) 1 [(List.range n).map fun j => M.cpw (M.ent R) n s t j]) := by
        have := mat_sub HO.out.mat s (by omega)
        rw [M.wt_row _ _ _ _ _ (Nat.lt_succ_self s)] at this
        exact this
      have HLR : Hid (Rect [(List.range n).map fun j => M.cpw (M.ent R) n s t j] 1 n) := by
        refine ⟨rfl, fun i hi => ?_⟩
        obtain rfl : i = 0 := by omega
        simp
      have HLB : Hid (∀ i k, i < 1 → k < n → M.Big (M.ent [(List.range n).map fun j => M.cpw (M.ent R) n s t j] i k)) := fun i k hi hk => by
        obtain rfl : i = 0 := by omega
        have e : M.ent [(List.range n).map fun j => M.cpw (M.ent R) n s t j] 0 k = M.cpw (M.ent R) n s t k := by simp [M.ent, hk]
        rw [e]
        exact M.big_sm (M.cpw_sm HSm.out s t k ht hk) (by omega)
      rw [Nat.zero_add] at HL1
      go_wp2_with fail
      refine (maxPlus _).mono ?_
      rintro e w2 ⟨rfl, hb2⟩
      have HBx2 := Lib.hid hb2
      have HB2 := Lib.hid (bnext HB.out hb2)
      clear hb2 hcr cx
      go_wp2_with fail
      refine (multipliedB _ _ _ n _ _ _ n R _ (HL1.out.below HBx2.out) (HS.out.1.below HB2.out) HLR.out HS.out.2.1 HLB.out HRB.out (by omega) (by omega) n1 n2 n1 n2).mono ?_
      rintro e w3 ⟨a3, c3, rfl, hP, hb3⟩
      obtain ⟨g3, r3, rc3, rfl, hc3, hr3⟩ := hP.row 0 (by omega)
      rw [M.wt_next, List.length_map, List.length_range] at hc3 hr3
      have HR3 := Lib.hid (hr3.mono HBx2.out.size)
      have HBx3 := Lib.hid (bnext HBx2.out hb3)
      clear hP hb3 hr3
      have hml : (M.wtM (M.ent R) n t (s + 1)).length = s + 1 := M.mk_length _ _ _
      have HML := Lib.hid hml
      have HAS : Hid (M.wtM (M.ent R) n t (s + 1) ++ [(List.range n).map fun j => M.cpw (M.ent R) n (s + 1) t j] = M.wtM (M.ent R) n t (s + 1 + 1)) := (M.mk_snoc _ _ _).symm
      clear hml
      go_wp2_with (at_builtin; refine appendRow wo _ rfl (.tmp 34) (.tmp 41) rfl w.heap.size _ _ _ _ (s + 1) HML.out rfl HO.out HBx3.out HR3.out rfl (by rw [HML.out]; omega) hzo ?_)
      intro b4 c4 w4 hO4 hb4 _
      rw [HAS.out] at hO4
      have HO4 := Lib.hid hO4
      have HB4 := Lib.hid ((HB.out.trans (HBx3.out.mono hzo)).trans hb4)
      clear hO4 hb4
      go_wp2
      go_roundw
      case rel => exact ⟨s + 1, _, _, by omega, rfl, HO4.out, HB4.out⟩
      case measure => simp; omega
    · obtain rfl : s = m := by omega
      have he : x = y := by rw [HX.out]; exact HY.out
      subst he
      go_wp2
      go_ret
      exact ⟨_, _, rfl, HO.out, HB.out⟩

theorem fld1h (w : World) (f g : Fn) : (Instr.field 91 (.agg #[.func f #[] #[], .func g #[] #[]]) 1).run Try.prog w = .ok (.func g #[] #[]) w := by
  simp [Instr.field, part, asAgg, go_sem]
set_option maxRecDepth 100000 in
set_option maxHeartbeats 1000000 in
theorem nextNode (a : Option Addr) (n cap : Nat) (R : List (List Int)) (x m : Nat) (a' : Option Addr) (cap' : Nat) (l : List Int) (y : Int) (w : World) (h : Sq w a n R) (h' : Ints .i64 w a' n l) (hx : x < n) (hm : m < n) (hl : ∀ k, k < n → M.Big (l.getD k 0))
    (hy : M.times (l.getD m 0) (M.ent R m x) = y) (hlt : ∀ v, v < m → M.times (l.getD v 0) (M.ent R v x) ≠ y) :
    Calls Try.prog 81 #[.slice a n cap, .int .i64 x, .slice a' n cap', .int .i64 y] w fun e w' => e = .returned (.int .i64 m) ∧ Below w.heap.size w w' := by
  have HS := Lib.hid h
  have HI := Lib.hid h'
  have HLB := Lib.hid hl
  have HY := Lib.hid hy
  have HLT := Lib.hid hlt
  obtain ⟨n1, n2⟩ := h.2.2.2
  obtain ⟨b', off', z0, rfl, -, -, -⟩ := h'.at 0 (by omega)
  obtain ⟨b, off, ra, rc, rfl, -, -⟩ := h.1.rect_first h.2.1 h.2.2.2.1
  have hxi : (x : Int) < (n : Int) := by omega
  have hfld := fld1h
  clear h h' hl hy hlt
  go_enter Try.func81, Try.ntmps81
  go_wp2_with fail
  refine (maxPlus _).mono ?_
  rintro e w1 ⟨rfl, hb1⟩
  have HB1 := Lib.hid hb1
  clear hb1
  go_wp2
  clear hfld
  go_loopw [10] (fun i wr => ∃ v : Nat, v ≤ m ∧ i = .int .i64 v ∧ ∃ q, wr = w1.drewN q) (fun i _ => n - (intOf i).toNat)
  case atStart => exact ⟨0, Nat.zero_le _, rfl, 0, rfl⟩
  case round =>
    obtain ⟨v, hv, rfl, q2, rfl⟩ := hrel
    have hvn : v < n := by omega
    have hvi : (v : Int) < (n : Int) := by omega
    obtain ⟨d, od, p, hdd, -, hp, c1⟩ := (HI.out.below HB1.out).at v hvn
    injection hdd with hdd
    injection hdd with e1 e2
    subst e1 e2
    obtain ⟨d, od, rd, rdo, c4, z, hdd, hz, c41, c42⟩ := (HS.out.1.below HB1.out).rect_ent HS.out.2.1 v x hvn hx
    injection hdd with hdd
    injection hdd with e1 e2
    subst e1 e2
    have HP : Hid (M.Big p) := by show M.Big _; rw [hp]; exact HLB.out v hvn
    have HZ : Hid (M.Big z) := by show M.Big _; rw [hz]; exact M.big_sm (HS.out.2.2.1 v x hvn hx) (by omega)
    obtain ⟨u, hu⟩ : ∃ u, u = M.times p z := ⟨_, rfl⟩
    have HU : Hid (u = M.times (l.getD v 0) (M.ent R v x)) := by show _ = _; rw [hu, hp, hz]
    have HC1 : ∀ w : World, Calls Try.prog 127 #[.int .i64 p, .int .i64 z] w fun e w' => e = .returned (.int .i64 u) ∧ w = w' := by
      intro w
      rw [hu]
      exact clTimes _ _ _ HP.out HZ.out
    clear hp hz hu
    by_cases hvm : v < m
    · have hne : (u == y) = false := by
        have := HLT.out v hvm
        rw [← HU.out] at this
        simpa using this
      have hne2 : (u != y) = true := by simpa using hne
      go_wp2
      go_quiet ((go_at_call 127; exact q_more_s (HC1 _)))
      go_wp2
      go_roundw
      case rel => exact ⟨v + 1, by omega, by go_num, _, rfl⟩
      case measure => simp [intOf]; omega
    · obtain rfl : v = m := by omega
      obtain rfl : u = y := by rw [HU.out]; exact HY.out
      go_wp2
      go_quiet ((go_at_call 127; exact q_more_s (HC1 _)))
      go_wp2
      go_ret
      exact ⟨rfl, below_drewN (below_drewN HB1.out _) _⟩
end Go.Proofs.Ytjljplolonpldab.V

namespace Go.Proofs.Ytjljplolonpldab.V
open Go.RowKit

/-- What the least fixed point of a matrix and a vector that fit is. -/
def M.lfpL (R : List (List Int)) (n : Nat) (l : List Int) : List Int × Int := if M.noPos (M.ent R) n then (if M.isVec (M.applyM (M.starM R n) l) then (M.applyM (M.starM R n) l, 0) else ([], 3)) else ([], 5)
set_option maxRecDepth 100000 in
set_option maxHeartbeats 1000000 in
theorem leastFixedPoint (a : Option Addr) (n cap : Nat) (R : List (List Int)) (a' : Option Addr) (cap' : Nat) (l : List Int) (w : World) (h : Sq w a n R) (h' : Ints .i64 w a' n l) (hlb : ∀ k, k < n → M.Big (l.getD k 0)) :
    Calls Try.prog 66 #[.slice a n cap, .slice a' n cap'] w (VRes (M.lfpL R n l) w) := by
  have HQ := Lib.hid h
  have HI := Lib.hid h'
  have HSm := Lib.hid h.2.2.1
  obtain ⟨-, -, -, n1, n2⟩ := h
  have HLB := Lib.hid hlb
  clear hlb h'
  obtain ⟨r, hr⟩ : ∃ r, r = M.starL R n := ⟨_, rfl⟩
  have HC : Calls Try.prog 62 #[.slice a n cap] w (CPost r w) := by rw [hr]; exact starOf _ _ _ _ _ HQ.out
  by_cases hp : M.noPos (M.ent R) n = true
  · have hr2 : r = (M.starM R n, true) := by rw [hr]; unfold M.starL; rw [hp]; rfl
    have HSB : Hid (∀ i j, i < n → j < n → M.Big (M.ent (M.starM R n) i j)) := fun i j hi hj => M.star_big n2 HSm.out hp hi hj
    obtain ⟨b, hb⟩ : ∃ b, b = M.isVec (M.applyM (M.starM R n) l) := ⟨_, rfl⟩
    have HM := Lib.hid hb.symm
    have HE : Hid (M.lfpL R n l = if b then (M.applyM (M.starM R n) l, 0) else ([], 3)) := by
      show _ = _; rw [hb]; unfold M.lfpL; rw [hp]; rfl
    clear hr hp hb
    subst hr2
    cases b with
    | true =>
      go_enter Try.func66, Try.ntmps66
      go_wp2_with fail
      refine HC.mono ?_
      rintro e w1 ⟨a2, m, cap2, rfl, hO, hb⟩
      obtain rfl : m = n := by have := hO.len; simpa [M.starM] using this
      have HO := Lib.hid hO
      have HB := Lib.hid hb
      clear hO hb
      go_wp2_with fail
      refine (timesColumn _ _ _ _ _ _ _ l _ HO.out.mat (HI.out.below HB.out) (rect_mk _ _ _) HSB.out HLB.out n1 n2 n1 n2).mono ?_
      rintro e w2 ⟨b3, c3, rfl, hx, hb⟩
      have HX := Lib.hid (hx.mono HB.out.size)
      have HB2 := Lib.hid (bnext HB.out hb)
      clear hx hb
      go_wp2_with fail
      refine (checkedVector_t _ _ _ _ _ HM.out HX.out.ints').mono ?_
      rintro e w' ⟨rfl, rfl⟩
      go_wp2
      go_ret2
      rw [HE.out]
      exact ⟨_, _, _, rfl, HX.out, HB2.out⟩
    | false =>
      go_enter Try.func66, Try.ntmps66
      go_wp2_with fail
      refine HC.mono ?_
      rintro e w1 ⟨a2, m, cap2, rfl, hO, hb⟩
      obtain rfl : m = n := by have := hO.len; simpa [M.starM] using this
      have HO := Lib.hid hO
      have HB := Lib.hid hb
      clear hO hb
      go_wp2_with fail
      refine (timesColumn _ _ _ _ _ _ _ l _ HO.out.mat (HI.out.below HB.out) (rect_mk _ _ _) HSB.out HLB.out n1 n2 n1 n2).mono ?_
      rintro e w2 ⟨b3, c3, rfl, hx, hb⟩
      have HX := Lib.hid (hx.mono HB.out.size)
      have HB2 := Lib.hid (bnext HB.out hb)
      clear hx hb
      go_wp2_with fail
      refine (checkedVector_f _ _ _ _ _ HM.out HX.out.ints').mono ?_
      rintro e w' ⟨rfl, rfl⟩
      go_wp2
      go_ret2
      exact VRes.nil HE.out HB2.out
  · simp only [Bool.not_eq_true] at hp
    have hr2 : r = ([], false) := by rw [hr]; unfold M.starL; rw [hp]; rfl
    have HE : Hid (M.lfpL R n l = ([], 5)) := by
      show _ = _; unfold M.lfpL; rw [hp]; rfl
    clear hr hp
    subst hr2
    go_enter Try.func66, Try.ntmps66
    go_wp2_with (go_at_call 62; refine HC.mono ?_; rintro e w1 ⟨a2, m, cap2, rfl, hO, hb⟩; have HB := Lib.hid hb; clear hO hb)
    go_ret2
    exact VRes.nil HE.out HB.out
set_option maxRecDepth 100000 in
set_option maxHeartbeats 1000000 in
theorem fixedPoint (a : Option Addr) (n cap : Nat) (R : List (List Int)) (a' : Option Addr) (N cap' : Nat) (l : List Int) (w : World) (h : Mat w a n R) (h' : Ints .i64 w a' N l) :
    Calls Try.prog 24 #[.slice a n cap, .slice a' N cap'] w (VRes (M.fixRes R l) w) := by
  have HA := Lib.hid h
  have HI := Lib.hid h'
  have HL := Lib.hid h'.1
  have HR := Lib.hid h.1
  by_cases hs : M.sqB R = true
  · have HS := Lib.hid hs
    by_cases hv : M.isVec l = true
    · have HV := Lib.hid hv
      have HQ := Lib.hid (sq_of h hs)
      by_cases hn : n = N
      · subst hn
        have HLB : Hid (∀ k, k < n → M.Big (l.getD k 0)) := fun k hk => M.big_val ((M.isVec_t hv).2.2 k (by rw [h'.1]; exact hk))
        have HE : Hid (M.fixRes R l = M.lfpL R n l) := by
          show _ = _; unfold M.fixRes M.lfpL; rw [hs, hv, HR.out, if_pos (by rfl), if_pos HL.out.symm]
        clear h h' hs hv
        go_enter Try.func24, Try.ntmps24
        go_wp2_with (first | (go_at_call 59; refine (isSquare_b _ _ _ R _ true HS.out HA.out).mono ?_; rintro e w' ⟨rfl, rfl⟩) | (go_at_call 65; refine (isVector_b _ _ _ l _ true HV.out HI.out).mono ?_; rintro e w' ⟨rfl, rfl⟩))
        refine (leastFixedPoint _ _ _ R _ _ l _ HQ.out HI.out HLB.out).mono ?_
        rintro e w1 ⟨b3, m, c3, rfl, ho, hb⟩
        have HO := Lib.hid ho
        have HB := Lib.hid hb
        clear ho hb
        go_wp2
        go_ret2
        rw [HE.out]
        exact ⟨_, _, _, rfl, HO.out, HB.out⟩
      · have hne : (n == N) = false := by simpa using hn
        have hne2 : ((n : Int) != (N : Int)) = true := by simp; omega
        have HE : Hid (M.fixRes R l = ([], 5)) := by
          show _ = _; unfold M.fixRes; rw [hs, hv, HR.out, HL.out, if_pos (by rfl), if_neg hn]
        clear h h' hs hv
        go_enter Try.func24, Try.ntmps24
        go_wp2_with (first | (go_at_call 59; refine (isSquare_b _ _ _ R _ true HS.out HA.out).mono ?_; rintro e w' ⟨rfl, rfl⟩) | (go_at_call 65; refine (isVector_b _ _ _ l _ true HV.out HI.out).mono ?_; rintro e w' ⟨rfl, rfl⟩))
        go_ret2
        exact VRes.nil HE.out (Below.refl _ _)
    · simp only [Bool.not_eq_true] at hv
      have HV := Lib.hid hv
      have HE : Hid (M.fixRes R l = ([], 1)) := by show _ = _; unfold M.fixRes; rw [hs, hv]; rfl
      clear h h' hs hv
      go_enter Try.func24, Try.ntmps24
      go_wp2_with (first | (go_at_call 59; refine (isSquare_b _ _ _ R _ true HS.out HA.out).mono ?_; rintro e w' ⟨rfl, rfl⟩) | (go_at_call 65; refine (isVector_b _ _ _ l _ false HV.out HI.out).mono ?_; rintro e w' ⟨rfl, rfl⟩))
      go_ret2
      exact VRes.nil HE.out (Below.refl _ _)
  · simp only [Bool.not_eq_true] at hs
    have HS := Lib.hid hs
    have HE : Hid (M.fixRes R l = ([], 1)) := by show _ = _; unfold M.fixRes; rw [hs]; rfl
    clear h h' hs
    go_enter Try.func24, Try.ntmps24
    go_wp2_with (go_at_call 59; refine (isSquare_b _ _ _ R _ false HS.out HA.out).mono ?_; rintro e w' ⟨rfl, rfl⟩)
    go_ret2
    exact VRes.nil HE.out (Below.refl _ _)

set_option maxRecDepth 100000 in
set_option maxHeartbeats 1000000 in
theorem sFixedPoint (a : Option Addr) (n cap : Nat) (R : List (List Int)) (a' : Option Addr) (N cap' : Nat) (l : List Int) (w : World) (h : Mat w a n R) (h' : Ints .i64 w a' N l) :
    Calls Try.prog 22 #[.slice a n cap, .slice a' N cap'] w (VRes (M.fixRes R l) w) := by
  have HA := Lib.hid h
  have HI := Lib.hid h'
  have HL := Lib.hid h'.1
  have HR := Lib.hid h.1
  by_cases hs : M.sqB R = true
  · have HS := Lib.hid hs
    by_cases hv : M.isVec l = true
    · have HV := Lib.hid hv
      obtain ⟨N1, N2⟩ := ints_vec h' hv
      have HQ := Lib.hid (sq_of h hs)
      have HSm := Lib.hid (sq_of h hs).2.2.1
      obtain ⟨-, -, -, n1, n2⟩ := sq_of h hs
      by_cases hn : n = N
      · subst hn
        have HLB : Hid (∀ k, k < n → M.Big (l.getD k 0)) := fun k hk => M.big_val ((M.isVec_t hv).2.2 k (by rw [h'.1]; exact hk))
        by_cases hp : M.noPos (M.ent R) n = true
        · have HC : ∀ w1, Below w.heap.size w w1 → Calls Try.prog 56 #[.slice a n cap] w1 fun e w' => ∃ b c, e = .returned (.tuple #[.slice b n c, .bool true]) ∧ OwnM w' w1.heap.size (.slice b n c) (M.starM R n) ∧ Below w1.heap.size w1 w' := by
            intro w1 hb
            have := sStar a n cap R w1 (HQ.out.below hb)
            rw [hp, M.bm_star n2 HSm.out hp] at this
            exact this
          have HSB : Hid (∀ i j, i < n → j < n → M.Big (M.ent (M.starM R n) i j)) := fun i j hi hj => M.star_big n2 HSm.out hp hi hj
          obtain ⟨b, hb⟩ : ∃ b, b = M.isVec (M.applyM (M.starM R n) l) := ⟨_, rfl⟩
          have HM := Lib.hid hb.symm
          have HE : Hid (M.fixRes R l = if b then (M.applyM (M.starM R n) l, 0) else ([], 3)) := by
            show _ = _; rw [hb]; unfold M.fixRes; rw [hs, hv, HR.out, if_pos (by rfl), if_pos HL.out.symm, hp]; rfl
          clear h h' hs hv hp hb
          cases b with
          | true =>
            go_enter Try.func22, Try.ntmps22
            go_wp2_with (first | (go_at_call 55; refine (sSquare_b _ _ _ R _ true HS.out HA.out).mono ?_; rintro e w' ⟨rfl, q, rfl⟩) | (go_at_call 63; refine (sVector_b _ _ _ l _ true HV.out (HI.out.below (b_draws _ _))).mono ?_; rintro e w' ⟨rfl, rfl⟩) | (go_at_call 56; refine (HC _ (b_draws _ _)).mono ?_; rintro e w1 ⟨a2, cap2, rfl, hO, hb⟩; have HO := Lib.hid (hO.mono (b_draws w q).size); have HB := Lib.hid (bnext (b_draws w q) hb); clear hO hb))
            refine (sApplyB _ _ _ _ _ _ _ l _ HO.out.mat (HI.out.below HB.out) (rect_mk _ _ _) HSB.out HLB.out n2 n1 n2).mono ?_
            rintro e w2 ⟨b3, c3, rfl, hx, hb⟩
            have HX := Lib.hid (hx.mono HB.out.size)
            have HB2 := Lib.hid (bnext HB.out hb)
            clear hx hb
            go_wp2_with fail
            refine (sVector_b _ _ _ _ _ true HM.out HX.out.ints').mono ?_
            rintro e w' ⟨rfl, rfl⟩
            go_wp2
            go_ret2
            rw [HE.out]
            exact ⟨_, _, _, rfl, HX.out, HB2.out⟩
          | false =>
            go_enter Try.func22, Try.ntmps22
            go_wp2_with (first | (go_at_call 55; refine (sSquare_b _ _ _ R _ true HS.out HA.out).mono ?_; rintro e w' ⟨rfl, q, rfl⟩) | (go_at_call 63; refine (sVector_b _ _ _ l _ true HV.out (HI.out.below (b_draws _ _))).mono ?_; rintro e w' ⟨rfl, rfl⟩) | (go_at_call 56; refine (HC _ (b_draws _ _)).mono ?_; rintro e w1 ⟨a2, cap2, rfl, hO, hb⟩; have HO := Lib.hid (hO.mono (b_draws w q).size); have HB := Lib.hid (bnext (b_draws w q) hb); clear hO hb))
            refine (sApplyB _ _ _ _ _ _ _ l _ HO.out.mat (HI.out.below HB.out) (rect_mk _ _ _) HSB.out HLB.out n2 n1 n2).mono ?_
            rintro e w2 ⟨b3, c3, rfl, hx, hb⟩
            have HX := Lib.hid (hx.mono HB.out.size)
            have HB2 := Lib.hid (bnext HB.out hb)
            clear hx hb
            go_wp2_with fail
            refine (sVector_b _ _ _ _ _ false HM.out HX.out.ints').mono ?_
            rintro e w' ⟨rfl, rfl⟩
            go_wp2
            go_ret2
            exact VRes.nil HE.out HB2.out
        · simp only [Bool.not_eq_true] at hp
          have HC : ∀ w1, Below w.heap.size w w1 → Calls Try.prog 56 #[.slice a n cap] w1 fun e w' => ∃ b c, e = .returned (.tuple #[.slice b n c, .bool false]) ∧ OwnM w' w1.heap.size (.slice b n c) (M.bmM R n n) ∧ Below w1.heap.size w1 w' := by
            intro w1 hb
            have := sStar a n cap R w1 (HQ.out.below hb)
            rw [hp] at this
            exact this
          have HE : Hid (M.fixRes R l = ([], 5)) := by
            show _ = _; unfold M.fixRes; rw [hs, hv, HR.out, if_pos (by rfl), if_pos HL.out.symm, hp]; rfl
          clear h h' hs hv hp
          go_enter Try.func22, Try.ntmps22
          go_wp2_with (first | (go_at_call 55; refine (sSquare_b _ _ _ R _ true HS.out HA.out).mono ?_; rintro e w' ⟨rfl, q, rfl⟩) | (go_at_call 63; refine (sVector_b _ _ _ l _ true HV.out (HI.out.below (b_draws _ _))).mono ?_; rintro e w' ⟨rfl, rfl⟩) | (go_at_call 56; refine (HC _ (b_draws _ _)).mono ?_; rintro e w1 ⟨a2, cap2, rfl, hO, hb⟩; have HB := Lib.hid (bnext (b_draws w q) hb); clear hO hb))
          go_ret2
          exact VRes.nil HE.out HB.out
      · have hne : (n == N) = false := by simpa using hn
        have hne2 : ((n : Int) != (N : Int)) = true := by simp; omega
        have HE : Hid (M.fixRes R l = ([], 5)) := by
          show _ = _; unfold M.fixRes; rw [hs, hv, HR.out, HL.out, if_pos (by rfl), if_neg hn]
        clear h h' hs hv
        go_enter Try.func22, Try.ntmps22
        go_wp2_with (first | (go_at_call 55; refine (sSquare_b _ _ _ R _ true HS.out HA.out).mono ?_; rintro e w' ⟨rfl, q, rfl⟩) | (go_at_call 63; refine (sVector_b _ _ _ l _ true HV.out (HI.out.below (b_draws _ _))).mono ?_; rintro e w' ⟨rfl, rfl⟩))
        go_ret2
        exact VRes.nil HE.out (b_draws _ _)
    · simp only [Bool.not_eq_true] at hv
      have HV := Lib.hid hv
      have HE : Hid (M.fixRes R l = ([], 1)) := by show _ = _; unfold M.fixRes; rw [hs, hv]; rfl
      clear h h' hs hv
      go_enter Try.func22, Try.ntmps22
      go_wp2_with (first | (go_at_call 55; refine (sSquare_b _ _ _ R _ true HS.out HA.out).mono ?_; rintro e w' ⟨rfl, q, rfl⟩) | (go_at_call 63; refine (sVector_b _ _ _ l _ false HV.out (HI.out.below (b_draws _ _))).mono ?_; rintro e w' ⟨rfl, rfl⟩))
      go_ret2
      exact VRes.nil HE.out (b_draws _ _)
  · simp only [Bool.not_eq_true] at hs
    have HS := Lib.hid hs
    have HE : Hid (M.fixRes R l = ([], 1)) := by show _ = _; unfold M.fixRes; rw [hs]; rfl
    clear h h' hs
    go_enter Try.func22, Try.ntmps22
    go_wp2_with (go_at_call 55; refine (sSquare_b _ _ _ R _ false HS.out HA.out).mono ?_; rintro e w' ⟨rfl, q, rfl⟩)
    go_ret2
    exact VRes.nil HE.out (b_draws _ _)
end Go.Proofs.Ytjljplolonpldab.V
