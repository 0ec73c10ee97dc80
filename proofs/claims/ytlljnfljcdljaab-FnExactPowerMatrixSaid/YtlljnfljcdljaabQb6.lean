/- Texts laid together: Repeat, IBot, Pow. -/
import Derived.Test.YtlljnfljcdljaabRows
import Derived.Test.YtlljnfljcdljaabQb1
import Derived.Test.YtlljnfljcdljaabQb2
import Derived.WalkKit
import Derived.ProofKit
import Derived.WalkSmall
import Derived.Deep.QuietTactic
import Derived.BigQuiet
import Derived.BigRegion
import Derived.Deep.Draws
import Derived.Lib.Hide
import Derived.OpenShut
import Derived.Deep.OwnRows
import Derived.Laws.CopyOwn
import Derived.Deep.RegionLaw
import Derived.IntWalk
import Derived.Maps.AppendAt
import Derived.StillTailTactics
import Derived.Deep.RegionHeld3
import Derived.Test.YtlljnfljcdljaabQb3
import Derived.Test.YtlljnfljcdljaabQb4
import Derived.Test.YtlljnfljcdljaabQb5
set_option linter.unusedSimpArgs false
set_option linter.unusedVariables false
set_option linter.unusedSectionVars false
namespace Go.Proofs.Ytlljnfljcdljaab.V
open Go.RowKit

set_option maxRecDepth 100000 in
set_option maxHeartbeats 1000000 in
theorem mul64 (n : Nat) (w : World) (h1 : 1 ≤ n) (h2 : n ≤ 12) : Calls Try.prog 131 #[.int .u64 1, .int .u64 n] w fun e w' => e = .returned (.tuple #[.int .u64 0, .int .u64 n]) ∧ w = w' := by
  have hn : n = 1 ∨ n = 2 ∨ n = 3 ∨ n = 4 ∨ n = 5 ∨ n = 6 ∨ n = 7 ∨ n = 8 ∨ n = 9 ∨ n = 10 ∨ n = 11 ∨ n = 12 := by omega
  clear h1 h2
  rcases hn with rfl | rfl | rfl | rfl | rfl | rfl | rfl | rfl | rfl | rfl | rfl | rfl
  all_goals
    go_enter Try.func131, Try.ntmps131
    go_wp2
    go_ret2
    exact ⟨rfl, rfl⟩

set_option maxRecDepth 100000 in
set_option maxHeartbeats 1000000 in
theorem mulU (n : Nat) (w : World) (h1 : 1 ≤ n) (h2 : n ≤ 12) : Calls Try.prog 127 #[.int .u64 1, .int .u64 n] w fun e w' => e = .returned (.tuple #[.int .u64 0, .int .u64 n]) ∧ w = w' := by
  go_enter Try.func127, Try.ntmps127
  go_wp2_with (first | (go_at_call 131; refine (mul64 _ _ h1 h2).mono ?_; rintro e w' ⟨rfl, rfl⟩))
  go_ret2
  exact ⟨rfl, rfl⟩

/-- A row of n integers of which the first k are x. -/
def repL (x : Int) (k n : Nat) : List Value := List.replicate k (.int .i64 x) ++ List.replicate (n - k) (.int .i64 0)
theorem repL_splice (x : Int) (k n m : Nat) (hk : k ≤ n) (hm : k + m ≤ n) : splice (repL x k n) k (List.replicate m (.int .i64 x)) = repL x (k + m) n := by
  unfold splice repL
  rw [List.take_left' (by simp), List.drop_append, List.length_replicate, List.length_replicate]
  have e1 : List.drop (k + m) (List.replicate k (Value.int IntKind.i64 x)) = [] := by simp
  rw [e1, List.nil_append, List.drop_replicate, ← List.append_assoc, List.replicate_append_replicate]
  congr 2
  omega
theorem repL_made (x : Int) (n : Nat) : (madeCells #[.int .i64 0] n) = (repL x 0 n).toArray := by
  apply Array.ext'
  rw [toList_madeCells_one]
  simp [repL]
theorem own_repL (w : World) (B g n : Nat) (x : Int) (hg : w.heap[g]? = some (.cells (repL x n n).toArray 2 (0, 0))) (hB : B ≤ g) (hn : n ≤ maxLen) : Own w B (.slice (some ⟨g, 0, none⟩) n n) ((List.range n).map fun _ => x) := by
  refine ⟨by simp, .inr ⟨g, n, _, by simp, hB, hg, by simp, hn, by simp [repL], ?_⟩⟩
  simp [repL]
  apply List.ext_getElem
  · simp
  · intro i h1 h2; simp

theorem one_cell {w : World} {a : Addr} {u : Value} (h : w.cell? a = some u) : ∀ j v, [u][j]? = some v → w.cell? (a.add j) = some v := by
  intro j v hj
  match j, hj with
  | 0, hj =>
    simp at hj
    subst hj
    simpa [Addr.add] using h
theorem one_one {x : Int} : ∀ v ∈ [Value.int IntKind.i64 x], v.oneCell' = true := by
  intro v hv; simp at hv; subst hv; rfl

theorem one_lit (w : World) (x : Int) : (w.alloc (.cells #[.int .i64 x] 2)).cell? ⟨w.heap.size, 0, none⟩ = some (.int .i64 x) := cell_one_new w (.int .i64 x) _ 0 _ rfl
theorem rep_one {x : Int} {m : Nat} : ∀ v ∈ List.replicate m (Value.int IntKind.i64 x), v.oneCell' = true := by
  intro v hv; rw [List.mem_replicate] at hv; rw [hv.2]; rfl
theorem rep_cells {w : World} {g k n m : Nat} {x : Int} {T : TypeId} (h : w.heap[g]? = some (.cells (repL x k n).toArray T (0, 0))) (hk : k ≤ n) (hm : m ≤ k) : ∀ j v, (List.replicate m (Value.int IntKind.i64 x))[j]? = some v → w.cell? ((⟨g, 0, none⟩ : Addr).add j) = some v := by
  intro j v hj
  rw [List.getElem?_replicate] at hj
  split at hj
  · next hlt =>
    injection hj with hj
    subst hj
    have e : (⟨g, 0, none⟩ : Addr).add j = ⟨g, j, none⟩ := by cases j <;> simp [Addr.add]
    rw [e]
    simp only [World.cell?, h]
    simp [repL, List.getElem?_append, show j < k by omega]
  · cases hj

set_option maxRecDepth 100000 in
set_option maxHeartbeats 1000000 in
theorem repeat1 (g n cap : Nat) (x : Int) (w : World) (h1 : 1 ≤ n) (h2 : n ≤ 12) (hc : w.cell? ⟨g, 0, none⟩ = some (.int .i64 x)) (hg : g < w.heap.size) :
    Calls Try.prog 118 #[.slice (some ⟨g, 0, none⟩) 1 cap, .int .i64 n] w fun e w' => e = .returned (.slice (some ⟨w.heap.size, 0, none⟩) n n) ∧ Own w' w.heap.size (.slice (some ⟨w.heap.size, 0, none⟩) n n) ((List.range n).map fun _ => x) ∧ Below w.heap.size w w' := by
  have hmk := run_make_row' (P := Try.prog) 25 2 (.int .i64 0) 8 Try.underlying25 info64 rfl .i64 .i64 n (by omega) (by omega)
  have HC := Lib.hid hc
  have hsz : (Try.prog.info? 2).map (·.size) = some 1 := by kernel_rfl
  have HS := Lib.hid hsz
  clear hc hsz
  go_enter Try.func118, Try.ntmps118
  go_wp2_with fail
  refine (mulU n _ h1 h2).mono ?_
  rintro e w' ⟨rfl, rfl⟩
  have hW1 : Hid ((w.alloc (.cells (madeCells #[.int .i64 0] n) 2)).heap[w.heap.size]? = some (.cells (repL x 0 n).toArray 2 (0, 0))) := by
    show _ = _
    rw [repL_made x n]
    show (w.heap.push _)[w.heap.size]? = _
    simp
  have hcell : Hid ((w.alloc (.cells (madeCells #[.int .i64 0] n) 2)).cell? ⟨g, 0, none⟩ = some (.int .i64 x)) := by
    show _ = _
    rw [(b_alloc w _).cell (p := ⟨g, 0, none⟩) hg]; exact HC.out
  go_wp2_with (with_reducible refine wpList_copy_splice rfl (.tmp 31) (.tmp 32) 25 25 rfl 2 Try.underlying25 HS.out (some ⟨w.heap.size, 0, none⟩) (some ⟨g, 0, none⟩) n n 1 cap rfl rfl w.heap.size 0 (repL x 0 n) 2 hW1.out [.int .i64 x] ?hn ?hpos ?hfit ?hone w.heap.size w (b_alloc w _) (Nat.le_refl _) ?_)
  case hn => exact (Nat.min_eq_left h1).symm
  case hpos =>
    intro j v hj
    match j, hj with
    | 0, hj =>
      simp at hj
      subst hj
      exact HC.out
  case hfit => simp [repL]; omega
  case hone => exact one_one
  intro w1 hg1 hb1
  have HG1 : Hid (w1.heap[w.heap.size]? = some (.cells (repL x 1 n).toArray 2 (0, 0))) := by
    have := hg1.out
    rw [show [Value.int .i64 x] = List.replicate 1 (.int .i64 x) from rfl, repL_splice x 0 n 1 (by omega) (by omega)] at this
    exact this
  have HB1 := Lib.hid hb1
  clear hg1 hb1 hW1 hcell
  go_wp2
  go_loopw [8] (fun i wr => ∃ k : Nat, 1 ≤ k ∧ k ≤ n ∧ i = .int .i64 k ∧ Hid (wr.heap[w.heap.size]? = some (.cells (repL x k n).toArray 2 (0, 0))) ∧ Below w.heap.size w wr) (fun i _ => n - (intOf i).toNat)
  case atStart => exact ⟨1, Nat.le_refl _, h1, rfl, HG1, HB1.out⟩
  case round =>
    obtain ⟨k, hk1, hk, rfl, HG, hb⟩ := hrel
    have HB := Lib.hid hb
    clear hb
    by_cases hlt : k < n
    · have hne : ¬ n = k := by omega
      have hki : (k : Int) < (n : Int) := by omega
      have hkn : k ≤ n := by omega
      go_wp2
      obtain ⟨m, hm⟩ : ∃ m, m = min k (n - k) := ⟨_, rfl⟩
      have hm1 : 1 ≤ m := by omega
      have hm2 : m ≤ k := by omega
      have hm3 : k + m ≤ n := by omega
      have HM := Lib.hid (rep_cells (x := x) HG.out hkn hm2)
      have HMm := Lib.hid hm
      have HN := Lib.hid (repL_splice x k n m hkn hm3)
      clear hm
      have hw : IntKind.i64.wrap ((k : Int) + (m : Int)) = (k : Int) + (m : Int) := IntWalk.i64_in _ (by omega)
      go_region_law (refine step_copy_splice rfl (.tmp 41) (.tmp 44) 25 25 rfl 2 Try.underlying25 HS.out (some ⟨w.heap.size, k, none⟩) (some ⟨w.heap.size, 0, none⟩) (n - k) (n - k) k n (by go_simp) (by go_simp) w.heap.size k (repL x k n) 2 HG.out (List.replicate m (.int .i64 x)) (by rw [List.length_replicate]; exact HMm.out) (fun _ => ⟨rfl, _, rfl, HM.out⟩) (by simp [repL]; omega) rep_one w.heap.size w HB.out.drew (Nat.le_refl _) ?_; intro w4 hg4 hb4)
      have HG4 : Hid (w4.heap[w.heap.size]? = some (.cells (repL x (k + m) n).toArray 2 (0, 0))) := by
        have := hg4.out
        rw [HN.out] at this
        exact this
      have HB4 := Lib.hid hb4
      clear hg4 hb4 hw
      go_simp
      go_wp2
      go_roundw
      case rel => exact ⟨k + m, by omega, by omega, vi (by omega), HG4, HB4.out⟩
      case measure => simp [intOf]; omega
    · obtain rfl : k = n := by omega
      go_wp2
      go_ret
      exact ⟨rfl, own_repL _ _ _ _ _ HG.out (Nat.le_refl _) (by unfold maxLen; omega), HB.out⟩
set_option maxRecDepth 100000 in
set_option maxHeartbeats 1000000 in
theorem mul64_0 (w : World) : Calls Try.prog 131 #[.int .u64 1, .int .u64 0] w fun e w' => e = .returned (.tuple #[.int .u64 0, .int .u64 0]) ∧ w = w' := by
  go_enter Try.func131, Try.ntmps131
  go_wp2
  go_ret2
  exact ⟨rfl, rfl⟩
set_option maxRecDepth 100000 in
set_option maxHeartbeats 1000000 in
theorem mulU_0 (w : World) : Calls Try.prog 127 #[.int .u64 1, .int .u64 0] w fun e w' => e = .returned (.tuple #[.int .u64 0, .int .u64 0]) ∧ w = w' := by
  go_enter Try.func127, Try.ntmps127
  go_wp2_with (first | (go_at_call 131; refine (mul64_0 _).mono ?_; rintro e w' ⟨rfl, rfl⟩))
  go_ret2
  exact ⟨rfl, rfl⟩
set_option maxRecDepth 100000 in
set_option maxHeartbeats 1000000 in
theorem repeat0 (g cap : Nat) (x : Int) (w : World) (hc : w.cell? ⟨g, 0, none⟩ = some (.int .i64 x)) :
    Calls Try.prog 118 #[.slice (some ⟨g, 0, none⟩) 1 cap, .int .i64 0] w fun e w' => e = .returned (.slice (some ⟨w.heap.size, 0, none⟩) 0 0) ∧ Own w' w.heap.size (.slice (some ⟨w.heap.size, 0, none⟩) 0 0) [] ∧ Below w.heap.size w w' := by
  have hmk : ∀ w : World, Sem.run Try.prog (Instr.makeSlice 25 (.int .i64 0) (.int .i64 0)) w = .ok (.slice (some ⟨w.heap.size, 0, none⟩) 0 0) (w.alloc (.cells (madeCells #[.int .i64 0] 0) 2)) := run_make_row' (P := Try.prog) 25 2 (.int .i64 0) 8 Try.underlying25 info64 rfl .i64 .i64 0 (by omega) (by omega)
  have hsz : (Try.prog.info? 2).map (·.size) = some 1 := by kernel_rfl
  have HS := Lib.hid hsz
  have HC := Lib.hid hc
  clear hc hsz
  go_enter Try.func118, Try.ntmps118
  go_wp2_with fail
  refine (mulU_0 _).mono ?_
  rintro e w' ⟨rfl, rfl⟩
  have hW1 : Hid ((w.alloc (.cells (madeCells #[.int .i64 0] 0) 2)).heap[w.heap.size]? = some (.cells (repL x 0 0).toArray 2 (0, 0))) := by
    show _ = _
    rw [repL_made x 0]
    show (w.heap.push _)[w.heap.size]? = _
    simp
  go_wp2_with (with_reducible refine wpList_copy_splice rfl (.tmp 31) (.tmp 32) 25 25 rfl 2 Try.underlying25 HS.out (some ⟨w.heap.size, 0, none⟩) (some ⟨g, 0, none⟩) 0 0 1 cap rfl rfl w.heap.size 0 (repL x 0 0) 2 hW1.out [] ?hn ?hpos ?hfit ?hone w.heap.size w (b_alloc w _) (Nat.le_refl _) ?_)
  case hn => rfl
  case hfit => simp [repL]
  case hone => intro v hv; simp at hv
  intro w1 hg1 hb1
  have HG1 : Hid (w1.heap[w.heap.size]? = some (.cells (repL x 0 0).toArray 2 (0, 0))) := by
    have := hg1.out
    exact this
  have HB1 := Lib.hid hb1
  clear hg1 hb1 hW1
  go_wp2
  go_loopw [8] (fun i wr => i = .int .i64 0 ∧ wr = w1) (fun _ _ => 0)
  case atStart => exact ⟨rfl, rfl⟩
  case round =>
    obtain ⟨rfl, rfl⟩ := hrel
    go_wp2
    go_ret
    exact ⟨rfl, own_repL _ _ _ 0 x HG1.out (Nat.le_refl _) (by unfold maxLen; omega), HB1.out⟩
end Go.Proofs.Ytlljnfljcdljaab.V

namespace Go.Proofs.Ytlljnfljcdljaab.V
open Go.RowKit

set_option maxRecDepth 100000 in
set_option maxHeartbeats 1000000 in
theorem filled (m n : Nat) (x : Int) (w : World) (m1 : 1 ≤ m) (hm : m ≤ 10) (n1 : 1 ≤ n) (hn : n ≤ 10) :
    Calls Try.prog 86 #[.int .i64 m, .int .i64 n, .int .i64 x] w (MPost m (M.mk m n fun _ _ => x) w) := by
  have hmk := run_make_row' (P := Try.prog) 24 25 (.slice none 0 0) 24 Try.underlying24 infoS64 rfl .i64 .i64 m (by omega) (by omega)
  have hO0 : Hid (OwnM (w.alloc (.cells (madeCells #[.slice none 0 0] m) 25)) w.heap.size (.slice (some ⟨w.heap.size, 0, none⟩) m m) (List.replicate m [])) := ownM_made w _ m (Nat.le_refl _) (by unfold maxLen; omega)
  go_enter Try.func86, Try.ntmps86
  go_wp2
  clear hmk
  go_loopw [8, 13] (fun _ i wr => ∃ k : Nat, k ≤ m ∧ i = .int .i64 k ∧ OwnM wr w.heap.size (.slice (some ⟨w.heap.size, 0, none⟩) m m) ((List.range m).map fun j => if j < k then (List.range n).map (fun _ => x) else []) ∧ Below w.heap.size w wr) (fun _ i _ => m - (intOf i).toNat)
  case atStart =>
    refine ⟨0, Nat.zero_le _, rfl, (congrArg (OwnM _ _ _) ?_).mp hO0.out, b_alloc _ _⟩
    apply List.ext_getElem
    · simp
    · intro i h1 h2; simp
  case round =>
    obtain ⟨k, hk, rfl, hO, hb⟩ := hrel
    have HO := Lib.hid hO
    have HB := Lib.hid hb
    clear hO hb hO0
    by_cases hlt : k < m
    · have hki : (k : Int) < (m : Int) := by omega
      have hg := HO.out.lt rfl
      have hlit := one_lit wr x
      go_wp2_with fail
      refine (repeat1 wr.heap.size n 1 x _ n1 (by omega) hlit (by simp)).mono ?_
      rintro e w1 ⟨rfl, ho1, hb1⟩
      have hb1' : Below wr.heap.size wr w1 := (b_alloc wr _).trans (hb1.mono (by simp))
      rw [show (wr.alloc (.cells #[.int .i64 x] 2)).heap.size = wr.heap.size + 1 by simp] at ho1
      have ho1' := ho1.mono (Nat.le_succ _)
      have hst : ∃ v, w1.cell? ⟨w.heap.size, k, none⟩ = some v := by
        obtain ⟨v, hv⟩ := HO.out.outer k hlt
        exact ⟨v, by rw [hb1'.cell (p := ⟨w.heap.size, k, none⟩) hg]; exact hv⟩
      obtain ⟨v, hst⟩ := hst
      have hfz : w1.frozen? ⟨w.heap.size, k, none⟩ = false := by rw [hb1'.frozen (p := ⟨w.heap.size, k, none⟩) hg]; exact HO.out.outerFz k
      have HN := Lib.hid (HO.out.setRow hb1' HB.out.size ho1' k hlt)
      have HB1 := Lib.hid (bnext HB.out hb1')
      clear ho1 hb1 hg hlit hb1' ho1'
      go_wp2
      go_roundw
      case rel =>
        refine ⟨k + 1, by omega, by go_num, ?_, HB1.out.setCell (Nat.le_refl _) _⟩
        refine (congrArg (OwnM _ _ _) ?_).mp HN.out
        apply List.ext_getElem
        · simp
        · intro j h1 h2
          simp only [List.length_map, List.length_range] at h2
          rw [List.getElem_set]
          simp only [List.getElem_map, List.getElem_range]
          by_cases e : k = j
          · subst e; rw [if_pos rfl, if_pos (by omega)]
          · rw [if_neg e]
            by_cases e2 : j < k
            · rw [if_pos e2, if_pos (by omega)]
            · rw [if_neg e2, if_neg (by omega)]
      case measure => simp [intOf]; omega
    · have hkn : k = m := by omega
      subst hkn
      go_wp2
      go_ret
      refine ⟨_, _, rfl, (congrArg (OwnM _ _ _) ?_).mp HO.out, HB.out⟩
      unfold M.mk
      exact List.map_congr_left fun j hj => by rw [if_pos (List.mem_range.1 hj)]

set_option maxRecDepth 100000 in
set_option maxHeartbeats 1000000 in
theorem unitOf (n : Nat) (w : World) (n1 : 1 ≤ n) (hn : n ≤ 10) :
    Calls Try.prog 82 #[.int .i64 n] w (MPost n (M.unitM n) w) := by
  go_enter Try.func82, Try.ntmps82
  go_wp2_with fail
  refine (filled n n _ _ n1 hn n1 hn).mono ?_
  rintro e w1 ⟨a, cap, rfl, hO, hb⟩
  have hO' : OwnM w1 w.heap.size (.slice a n cap) (M.mk n n fun i j => if i = j ∧ i < 0 then 0 else -1000000000000000) :=
    (congrArg (OwnM _ _ _) (M.mk_congr fun i _ j _ => by rw [if_neg (by omega)])).mp hO
  have HO0 := Lib.hid hO'
  have HB0 := Lib.hid hb
  clear hO hb hO'
  go_wp2
  go_loopw [4, 10] (fun _ i wr => ∃ k : Nat, k ≤ n ∧ i = .int .i64 k ∧ OwnM wr w.heap.size (.slice a n cap) (M.mk n n fun i j => if i = j ∧ i < k then 0 else -1000000000000000) ∧ Below w.heap.size w wr) (fun _ i _ => n - (intOf i).toNat)
  case atStart => exact ⟨0, Nat.zero_le _, rfl, HO0.out, HB0.out⟩
  case round =>
    obtain ⟨k, hk, rfl, hO, hb⟩ := hrel
    have HO := Lib.hid hO
    have HB := Lib.hid hb
    clear hO hb
    by_cases hlt : k < n
    · obtain ⟨g, q, L, c, x, rfl, hg, hq, hL, hx, h1, h2, h3, h4⟩ := HO.out.at k k hlt (by rw [M.mk_rowlen _ _ _ _ hlt]; exact hlt)
      rw [M.mk_rowlen _ _ _ _ hlt] at hL
      obtain rfl : n = L := hL.symm
      have hN := h4 0
      rw [M.mk_set _ _ _ _ _ _ hlt] at hN
      have HN := Lib.hid hN
      have hki : (k : Int) < (n : Int) := by omega
      clear hx h4 hN
      go_wp2
      go_roundw
      case rel =>
        refine ⟨k + 1, by omega, by go_num, (congrArg (OwnM _ _ _) (M.mk_congr fun i _ j _ => ?_)).mp HN.out, HB.out.setCell hq _⟩
        by_cases e : i = k
        · subst e
          by_cases e2 : j = i
          · subst e2; simp
          · rw [if_pos rfl, if_neg e2, if_neg (by omega), if_neg (by omega)]
        · rw [if_neg e]
          by_cases e2 : i = j ∧ i < k
          · rw [if_pos e2, if_pos (by omega)]
          · rw [if_neg e2, if_neg (by omega)]
      case measure => simp [intOf]; omega
    · obtain rfl : k = n := by omega
      go_wp2
      go_ret
      refine ⟨_, _, rfl, (congrArg (OwnM _ _ _) (M.mk_congr fun i hi j _ => ?_)).mp HO.out, HB.out⟩
      by_cases e : i = j
      · rw [if_pos ⟨e, hi⟩, if_pos e]
      · rw [if_neg (by omega), if_neg e]

set_option maxRecDepth 100000 in
set_option maxHeartbeats 400000 in
theorem unitMatrix (n : Int) (w : World) : Calls Try.prog 37 #[.int .i64 n] w (MRes (M.unitRes n) w) := by
  by_cases hz : 1 ≤ n ∧ n ≤ 10
  · have hd : (decide ((1 : Int) ≤ n) && decide ((n : Int) ≤ 10)) = true := by simp; omega
    obtain ⟨k, rfl⟩ := Int.eq_ofNat_of_zero_le (show 0 ≤ n by omega)
    have HR : Hid (M.unitRes (k : Int) = (M.unitM k, 0)) := by show _ = _; unfold M.unitRes; rw [if_pos hz]; rfl
    have k1 : 1 ≤ k := by omega
    have hk : k ≤ 10 := by omega
    clear hz
    go_enter Try.func37, Try.ntmps37
    go_wp2_with (go_at_call 78; refine (isSize _ _).mono ?_; rintro e w' ⟨rfl, rfl⟩)
    refine (unitOf k _ k1 hk).mono ?_
    rintro e w1 ⟨a, cap, rfl, hO, hb⟩
    have HO := Lib.hid hO
    have HB := Lib.hid hb
    clear hO hb
    go_wp2
    go_ret2
    rw [HR.out]
    exact ⟨_, _, _, rfl, HO.out, HB.out⟩
  · have hd : (decide ((1 : Int) ≤ n) && decide ((n : Int) ≤ 10)) = false := by rw [Bool.and_eq_false_iff]; simp; omega
    have HR : Hid (M.unitRes n = ([], 2)) := by show _ = _; unfold M.unitRes; rw [if_neg hz]
    go_enter Try.func37, Try.ntmps37
    go_wp2_with (first | (go_at_call 78; refine (isSize _ _).mono ?_; rintro e w' ⟨rfl, rfl⟩))
    go_ret2
    exact MRes.nil HR.out (Below.refl _ _)

set_option maxRecDepth 100000 in
set_option maxHeartbeats 400000 in
theorem bottomMatrix (m n : Int) (w : World) : Calls Try.prog 40 #[.int .i64 m, .int .i64 n] w (MRes (M.botRes m n) w) := by
  by_cases hz : 1 ≤ m ∧ m ≤ 10
  · have hd : (decide ((1 : Int) ≤ m) && decide ((m : Int) ≤ 10)) = true := by simp; omega
    by_cases hy : 1 ≤ n ∧ n ≤ 10
    · have hd2 : (decide ((1 : Int) ≤ n) && decide ((n : Int) ≤ 10)) = true := by simp; omega
      obtain ⟨j, rfl⟩ := Int.eq_ofNat_of_zero_le (show 0 ≤ m by omega)
      obtain ⟨k, rfl⟩ := Int.eq_ofNat_of_zero_le (show 0 ≤ n by omega)
      have HR : Hid (M.botRes (j : Int) (k : Int) = (M.botM j k, 0)) := by show _ = _; unfold M.botRes; rw [if_pos ⟨hz, hy⟩]; rfl
      have j1 : 1 ≤ j := by omega
      have hj : j ≤ 10 := by omega
      have k1 : 1 ≤ k := by omega
      have hk : k ≤ 10 := by omega
      clear hz hy
      go_enter Try.func40, Try.ntmps40
      go_wp2_with (go_at_call 78; refine (isSize _ _).mono ?_; rintro e w' ⟨rfl, rfl⟩)
      refine (filled j k _ _ j1 hj k1 hk).mono ?_
      rintro e w1 ⟨a, cap, rfl, hO, hb⟩
      have HO := Lib.hid hO
      have HB := Lib.hid hb
      clear hO hb
      go_wp2
      go_ret2
      rw [HR.out]
      exact ⟨_, _, _, rfl, HO.out, HB.out⟩
    · have hd2 : (decide ((1 : Int) ≤ n) && decide ((n : Int) ≤ 10)) = false := by rw [Bool.and_eq_false_iff]; simp; omega
      have HR : Hid (M.botRes m n = ([], 2)) := by show _ = _; unfold M.botRes; rw [if_neg (fun h => hy h.2)]
      go_enter Try.func40, Try.ntmps40
      go_wp2_with (first | (go_at_call 78; refine (isSize _ _).mono ?_; rintro e w' ⟨rfl, rfl⟩))
      go_ret2
      exact MRes.nil HR.out (Below.refl _ _)
  · have hd : (decide ((1 : Int) ≤ m) && decide ((m : Int) ≤ 10)) = false := by rw [Bool.and_eq_false_iff]; simp; omega
    have HR : Hid (M.botRes m n = ([], 2)) := by show _ = _; unfold M.botRes; rw [if_neg (fun h => hz h.1)]
    go_enter Try.func40, Try.ntmps40
    go_wp2_with (first | (go_at_call 78; refine (isSize _ _).mono ?_; rintro e w' ⟨rfl, rfl⟩))
    go_ret2
    exact MRes.nil HR.out (Below.refl _ _)
end Go.Proofs.Ytlljnfljcdljaab.V

namespace Go.Proofs.Ytlljnfljcdljaab.V
open Go.RowKit

set_option maxRecDepth 100000 in
set_option maxHeartbeats 4000000 in
theorem powerMatrix_ok (a : Option Addr) (n cap : Nat) (R : List (List Int)) (m : Nat) (w : World) (h : Mat w a n R) (hR : M.isMat R = true) (hs : M.wid R = n) (hm : m ≤ 100) :
    Calls Try.prog 34 #[.slice a n cap, .int .i64 m] w (MRes (M.pwRes R m) w) := by
  have HA := Lib.hid h
  have HL := Lib.hid h.1
  have HR := Lib.hid hR
  have HS := Lib.hid hs
  obtain ⟨m1, m2, -, -, -, -⟩ := M.isMat_t hR
  have HT : Hid (Rect R n n) := by
    have := rect_mat hR
    rw [h.1, hs] at this
    exact this
  rw [h.1] at m1 m2
  obtain ⟨b, off, ra, rc, rfl, -, hc⟩ := h.rect_first HT.out (by omega)
  clear h hR hs
  go_enter Try.func34, Try.ntmps34
  go_wp2_with fail
  refine (isMatrix_b _ _ _ R _ true HR.out HA.out).mono ?_
  rintro e w' ⟨rfl, rfl⟩
  go_wp2_with fail
  refine (unitOf n _ m1 m2).mono ?_
  rintro e w1 ⟨a1, cap1, rfl, ho, hb⟩
  have HO0 : Hid (OwnM w1 w.heap.size (.slice a1 n cap1) (M.powN R 0).1) := by
    show OwnM _ _ _ (M.unitM R.length)
    rw [HL.out]; exact ho
  have HB0 := Lib.hid hb
  clear ho hb hc
  go_wp2
  go_loopw [6, 27] (fun p i wr => ∃ (k : Nat) (a2 : Option Addr) (c2 : Nat), k ≤ m ∧ i = .int .i64 k ∧ p = .slice a2 n c2 ∧ OwnM wr w.heap.size (.slice a2 n c2) (M.powN R k).1 ∧ Hid ((M.powN R k).2 = true) ∧ Below w.heap.size w wr) (fun _ i _ => m - (intOf i).toNat)
  case atStart => exact ⟨0, _, _, Nat.zero_le _, rfl, rfl, HO0.out, rfl, HB0.out⟩
  case round =>
    obtain ⟨k, a2, c2, hk, rfl, rfl, hO, HP, hb⟩ := hrel
    have HO := Lib.hid hO
    have HB := Lib.hid hb
    clear hO hb HO0 HB0
    by_cases hlt : k < m
    · have hki : (k : Int) < (m : Int) := by omega
      have HPM : Hid (M.isMat (M.powN R k).1 = true) := M.powN_ok (by rw [HL.out]; exact m1) (by rw [HL.out]; exact m2) k HP.out
      have HPT : Hid (Rect (M.powN R k).1 n n) := by
        have := rect_mat HPM.out
        rw [M.powN_len HP.out, HL.out, M.powN_wid (by rw [HL.out]; exact m1) (by rw [HL.out, HS.out]) HP.out, HL.out] at this
        exact this
      have HST := Lib.hid (M.powN_step HP.out)
      have HF : Hid (M.mulM (M.powN R k).1 R = M.mk n n (fun i j => M.dot (M.powN R k).1 R i j n)) := by
        show _ = _; unfold M.mulM; rw [M.powN_len HP.out, HL.out, HS.out]
      go_wp2_with fail
      refine (maxPlus _).mono ?_
      rintro e w2 ⟨rfl, hb2⟩
      have HB2 := Lib.hid hb2
      have hsz := HB.out.size
      clear hb2
      go_wp2_with fail
      refine (multiplied _ _ _ n (M.powN R k).1 _ _ n R _ (HO.out.below HB2.out).mat (HA.out.below (HB.out.trans (HB2.out.mono hsz))) HPT.out HT.out HPM.out HR.out m1 m2 m1 m2 m1 m2).mono ?_
      rintro e w3 ⟨a3, c3, rfl, ho, hb3⟩
      have HB3 := Lib.hid (bnext (bnext HB.out HB2.out) hb3)
      have HO3 : Hid (OwnM w3 w.heap.size (.slice a3 n c3) (M.mulM (M.powN R k).1 R)) := by
        show OwnM _ _ _ _
        rw [HF.out]
        exact ho.mono (by have := HB2.out.size; omega)
      clear ho hb3
      by_cases hM : M.isMat (M.mulM (M.powN R k).1 R) = true
      · have HM := Lib.hid hM
        have HP2 : Hid ((M.powN R (k + 1)).2 = true) := by show _ = _; rw [HST.out]; exact HM.out
        have HO4 : Hid (OwnM w3 w.heap.size (.slice a3 n c3) (M.powN R (k + 1)).1) := by
          show OwnM _ _ _ _; rw [HST.out]; exact HO3.out
        clear hM
        go_wp2_with fail
        refine (isMatrix_b _ _ _ (M.mulM (M.powN R k).1 R) _ true HM.out HO3.out.mat).mono ?_
        rintro e w' ⟨rfl, rfl⟩
        go_wp2
        go_roundw
        case rel => exact ⟨k + 1, _, _, by omega, by go_num, rfl, HO4.out, HP2, HB3.out⟩
        case measure => simp [intOf]; omega
      · simp only [Bool.not_eq_true] at hM
        have HM := Lib.hid hM
        have HE : Hid (M.pwRes R m = ([], 3)) := by
          show _ = _
          unfold M.pwRes
          rw [M.powN_false (show (M.powN R (k + 1)).2 = false by rw [HST.out]; exact HM.out) (by omega)]
          rfl
        clear hM
        go_wp2_with fail
        refine (isMatrix_b _ _ _ (M.mulM (M.powN R k).1 R) _ false HM.out HO3.out.mat).mono ?_
        rintro e w' ⟨rfl, rfl⟩
        go_wp2
        go_ret2
        exact MRes.nil HE.out HB3.out
    · obtain rfl : k = m := by omega
      have HE : Hid (M.pwRes R k = ((M.powN R k).1, 0)) := by
        show _ = _; unfold M.pwRes; rw [HP.out]; rfl
      go_wp2
      go_ret2
      rw [HE.out]
      exact ⟨_, _, _, rfl, HO.out, HB.out⟩

set_option maxRecDepth 100000 in
set_option maxHeartbeats 4000000 in
theorem sPower (a : Option Addr) (n cap : Nat) (R : List (List Int)) (m : Nat) (w : World) (h : Mat w a n R) (hR : M.isMat R = true) (hs : M.wid R = n) (hm : m ≤ 100) :
    Calls Try.prog 84 #[.slice a n cap, .int .i64 m] w (MRes (M.pwRes R m) w) := by
  have HA := Lib.hid h
  have HL := Lib.hid h.1
  have HR := Lib.hid hR
  have HS := Lib.hid hs
  obtain ⟨m1, m2, -, -, -, -⟩ := M.isMat_t hR
  have HT : Hid (Rect R n n) := by
    have := rect_mat hR
    rw [h.1, hs] at this
    exact this
  rw [h.1] at m1 m2
  have m3 : n ≤ 100 := by omega
  clear h hR hs
  go_enter Try.func84, Try.ntmps84
  go_wp2_with fail
  refine (sUnit n _ m3).mono ?_
  rintro e w1 ⟨a1, cap1, rfl, ho, hb⟩
  have HO0 : Hid (OwnM w1 w.heap.size (.slice a1 n cap1) (M.powN R 0).1) := by
    show OwnM _ _ _ (M.unitM R.length)
    rw [HL.out]; exact ho
  have HB0 := Lib.hid hb
  clear ho hb
  go_wp2
  go_loopw [1, 6] (fun i p wr => ∃ (k j : Nat) (a2 : Option Addr) (c2 : Nat), k + j = m ∧ i = .int .i64 j ∧ p = .slice a2 n c2 ∧ OwnM wr w.heap.size (.slice a2 n c2) (M.powN R k).1 ∧ Hid ((M.powN R k).2 = true) ∧ Below w.heap.size w wr) (fun i _ _ => (intOf i).toNat)
  case atStart => exact ⟨0, m, _, _, by omega, rfl, rfl, HO0.out, rfl, HB0.out⟩
  case round =>
    obtain ⟨k, j, a2, c2, hkj, rfl, rfl, hO, HP, hb⟩ := hrel
    have HKJ := Lib.hid hkj
    have hj100 : j ≤ 100 := by omega
    have HO := Lib.hid hO
    have HB := Lib.hid hb
    clear hO hb HO0 HB0 hkj
    by_cases hlt : 0 < j
    · have hki : (0 : Int) < (j : Int) := by omega
      have HPM : Hid (M.isMat (M.powN R k).1 = true) := M.powN_ok (by rw [HL.out]; exact m1) (by rw [HL.out]; exact m2) k HP.out
      have HPT : Hid (Rect (M.powN R k).1 n n) := by
        have := rect_mat HPM.out
        rw [M.powN_len HP.out, HL.out, M.powN_wid (by rw [HL.out]; exact m1) (by rw [HL.out, HS.out]) HP.out, HL.out] at this
        exact this
      have HST := Lib.hid (M.powN_step HP.out)
      have HF : Hid (M.mulM (M.powN R k).1 R = M.mk n n (fun i j => M.dot (M.powN R k).1 R i j n)) := by
        show _ = _; unfold M.mulM; rw [M.powN_len HP.out, HL.out, HS.out]
      have hsz := HB.out.size
      go_wp2_with fail
      refine (sMultiply _ _ _ n (M.powN R k).1 _ _ n R _ HO.out.mat (HA.out.below HB.out) HPT.out HT.out HPM.out HR.out m1 m2 m1 m2 m1 m2).mono ?_
      rintro e w3 ⟨a3, c3, rfl, ho, hb3⟩
      have HB3 := Lib.hid (bnext HB.out hb3)
      have HO3 : Hid (OwnM w3 w.heap.size (.slice a3 n c3) (M.mulM (M.powN R k).1 R)) := by
        show OwnM _ _ _ _
        rw [HF.out]
        exact ho.mono hsz
      clear ho hb3
      by_cases hM : M.isMat (M.mulM (M.powN R k).1 R) = true
      · have HM := Lib.hid hM
        have HP2 : Hid ((M.powN R (k + 1)).2 = true) := by show _ = _; rw [HST.out]; exact HM.out
        have HO4 : Hid (OwnM w3 w.heap.size (.slice a3 n c3) (M.powN R (k + 1)).1) := by
          show OwnM _ _ _ _; rw [HST.out]; exact HO3.out
        clear hM
        go_wp2_with fail
        refine (sIsMatrixB_b _ _ _ (M.mulM (M.powN R k).1 R) _ true HM.out HO3.out.mat).mono ?_
        rintro e w4 ⟨rfl, hb4⟩
        have HB4 := Lib.hid (bnext HB3.out hb4)
        have HO5 := Lib.hid (HO4.out.below hb4)
        clear hb4
        go_wp2
        go_roundw
        case rel => exact ⟨k + 1, j - 1, _, _, by have := HKJ.out; omega, by go_num, rfl, HO5.out, HP2, HB4.out⟩
        case measure => simp [intOf]; omega
      · simp only [Bool.not_eq_true] at hM
        have HM := Lib.hid hM
        have HE : Hid (M.pwRes R m = ([], 3)) := by
          show _ = _
          unfold M.pwRes
          rw [M.powN_false (show (M.powN R (k + 1)).2 = false by rw [HST.out]; exact HM.out) (by have := HKJ.out; omega)]
          rfl
        clear hM
        go_wp2_with fail
        refine (sIsMatrixB_b _ _ _ (M.mulM (M.powN R k).1 R) _ false HM.out HO3.out.mat).mono ?_
        rintro e w4 ⟨rfl, hb4⟩
        have HB4 := Lib.hid (bnext HB3.out hb4)
        clear hb4
        go_wp2
        go_ret2
        exact MRes.nil HE.out HB4.out
    · have hkm := HKJ.out
      obtain rfl : j = 0 := by omega
      obtain rfl : m = k := by omega
      have HE : Hid (M.pwRes R m = ((M.powN R m).1, 0)) := by
        show _ = _; unfold M.pwRes; rw [HP.out]; rfl
      clear hkm
      go_wp2
      go_ret2
      rw [HE.out]
      exact ⟨_, _, _, rfl, HO.out, HB.out⟩

set_option maxRecDepth 100000 in
set_option maxHeartbeats 1000000 in
theorem powerMatrix (a : Option Addr) (n cap : Nat) (R : List (List Int)) (m : Int) (w : World) (h : Mat w a n R) :
    Calls Try.prog 34 #[.slice a n cap, .int .i64 m] w (MRes (M.powRes R m) w) := by
  by_cases hR : M.isMat R = true
  · by_cases hm : 0 ≤ m ∧ m ≤ 100
    · by_cases hs : M.wid R = n
      · obtain ⟨k, rfl⟩ := Int.eq_ofNat_of_zero_le hm.1
        have e : M.powRes R (k : Int) = M.pwRes R k := by
          unfold M.powRes; rw [if_pos hR, if_pos hm, if_pos (by rw [h.1, hs])]; rfl
        rw [e]
        exact powerMatrix_ok _ _ _ _ _ _ h hR hs (by omega)
      · have HE : Hid (M.powRes R m = ([], 5)) := by
          show _ = _; unfold M.powRes; rw [if_pos hR, if_pos hm, if_neg (by rw [h.1]; exact fun e => hs e.symm)]
        have HA := Lib.hid h
        have HR := Lib.hid hR
        obtain ⟨m1, m2, c1, c2, -, -⟩ := M.isMat_t hR
        rw [h.1] at m1 m2
        obtain ⟨b, off, ra, L, rc, rfl, hL, hc⟩ := h.first (by omega)
        rw [← hL] at hs
        obtain ⟨hm1, hm2⟩ := hm
        have hne : (n == L) = false := by simp; omega
        have hne2 : (n != L) = true := by simp; omega
        have hne3 : ((n : Int) != (L : Int)) = true := by simp; omega
        clear h hR hL
        go_enter Try.func34, Try.ntmps34
        go_wp2_with fail
        refine (isMatrix_b _ _ _ R _ true HR.out HA.out).mono ?_
        rintro e w' ⟨rfl, rfl⟩
        go_wp2
        go_ret2
        exact MRes.nil HE.out (Below.refl _ _)
    · have HE : Hid (M.powRes R m = ([], 2)) := by
        show _ = _; unfold M.powRes; rw [if_pos hR, if_neg hm]
      have HA := Lib.hid h
      have HR := Lib.hid hR
      clear h hR
      by_cases h0 : m < 0
      · go_enter Try.func34, Try.ntmps34
        go_wp2_with fail
        refine (isMatrix_b _ _ _ R _ true HR.out HA.out).mono ?_
        rintro e w' ⟨rfl, rfl⟩
        go_wp2
        go_ret2
        exact MRes.nil HE.out (Below.refl _ _)
      · have h1 : 100 < m := by omega
        go_enter Try.func34, Try.ntmps34
        go_wp2_with fail
        refine (isMatrix_b _ _ _ R _ true HR.out HA.out).mono ?_
        rintro e w' ⟨rfl, rfl⟩
        go_wp2
        go_ret2
        exact MRes.nil HE.out (Below.refl _ _)
  · simp only [Bool.not_eq_true] at hR
    have HE : Hid (M.powRes R m = ([], 1)) := by
      show _ = _; unfold M.powRes; rw [hR, if_neg (by simp)]
    have HA := Lib.hid h
    have HR := Lib.hid hR
    clear h hR
    go_enter Try.func34, Try.ntmps34
    go_wp2_with fail
    refine (isMatrix_b _ _ _ R _ false HR.out HA.out).mono ?_
    rintro e w' ⟨rfl, rfl⟩
    go_wp2
    go_ret2
    exact MRes.nil HE.out (Below.refl _ _)

set_option maxRecDepth 100000 in
set_option maxHeartbeats 1000000 in
theorem sPowerMatrix (a : Option Addr) (n cap : Nat) (R : List (List Int)) (m : Int) (w : World) (h : Mat w a n R) :
    Calls Try.prog 35 #[.slice a n cap, .int .i64 m] w (MRes (M.powRes R m) w) := by
  have HA := Lib.hid h
  by_cases hR : M.isMat R = true
  · have HR := Lib.hid hR
    by_cases hm : 0 ≤ m ∧ m ≤ 100
    · have hd : (decide ((0 : Int) ≤ m) && decide ((m : Int) ≤ 100)) = true := by simp; omega
      obtain ⟨m1, m2, c1, c2, -, -⟩ := M.isMat_t hR
      rw [h.1] at m1 m2
      obtain ⟨b, off, ra, L, rc, rfl, hL, hc⟩ := h.first (by omega)
      by_cases hs : M.wid R = n
      · obtain ⟨k, rfl⟩ := Int.eq_ofNat_of_zero_le hm.1
        have HE : Hid (M.powRes R (k : Int) = M.pwRes R k) := by
          show _ = _; unfold M.powRes; rw [if_pos hR, if_pos hm, if_pos (by rw [h.1, hs])]; rfl
        have HS := Lib.hid hs
        have hk : k ≤ 100 := by omega
        have hd2 : decide ((k : Int) ≤ 100) = true := by simp; omega
        obtain rfl : n = L := by rw [hL, hs]
        clear h hR hm hL hs
        go_enter Try.func35, Try.ntmps35
        go_wp2_with fail
        refine (sIsMatrix_b _ _ _ R _ true HR.out HA.out).mono ?_
        rintro e w' ⟨rfl, q, rfl⟩
        go_wp2_with (go_at_call 83; refine (sIn _ _ _ _).mono ?_; rintro e w' ⟨rfl, rfl⟩)
        refine (sPower _ _ _ R k _ (by exact HA.out) HR.out HS.out hk).mono ?_
        rintro e w1 ⟨a1, n1, c1, rfl, ho, hb⟩
        have HO : Hid (OwnM w1 w.heap.size (.slice a1 n1 c1) (M.pwRes R k).1) := ho
        have HB : Hid (Below w.heap.size w w1) := (b_draws w _).trans hb
        clear ho hb
        go_wp2
        go_ret2
        rw [HE.out]
        exact ⟨_, _, _, rfl, HO.out, HB.out⟩
      · have HE : Hid (M.powRes R m = ([], 5)) := by
          show _ = _; unfold M.powRes; rw [if_pos hR, if_pos hm, if_neg (by rw [h.1]; exact fun e => hs e.symm)]
        rw [← hL] at hs
        have hne : (n == L) = false := by simp; omega
        have hne2 : (n != L) = true := by simp; omega
        have hne3 : ((n : Int) != (L : Int)) = true := by simp; omega
        clear h hR hL hm
        go_enter Try.func35, Try.ntmps35
        go_wp2_with fail
        refine (sIsMatrix_b _ _ _ R _ true HR.out HA.out).mono ?_
        rintro e w' ⟨rfl, q, rfl⟩
        go_wp2_with (go_at_call 83; refine (sIn _ _ _ _).mono ?_; rintro e w' ⟨rfl, rfl⟩)
        go_ret2
        exact MRes.nil HE.out (b_draws _ _)
    · have HE : Hid (M.powRes R m = ([], 2)) := by
        show _ = _; unfold M.powRes; rw [if_pos hR, if_neg hm]
      have hd : (decide ((0 : Int) ≤ m) && decide ((m : Int) ≤ 100)) = false := by rw [Bool.and_eq_false_iff]; simp; omega
      clear h hR
      go_enter Try.func35, Try.ntmps35
      go_wp2_with fail
      refine (sIsMatrix_b _ _ _ R _ true HR.out HA.out).mono ?_
      rintro e w' ⟨rfl, q, rfl⟩
      go_wp2_with (go_at_call 83; refine (sIn _ _ _ _).mono ?_; rintro e w' ⟨rfl, rfl⟩)
      go_ret2
      exact MRes.nil HE.out (b_draws _ _)
  · simp only [Bool.not_eq_true] at hR
    have HE : Hid (M.powRes R m = ([], 1)) := by
      show _ = _; unfold M.powRes; rw [hR, if_neg (by simp)]
    have HR := Lib.hid hR
    clear h hR
    go_enter Try.func35, Try.ntmps35
    go_wp2_with fail
    refine (sIsMatrix_b _ _ _ R _ false HR.out HA.out).mono ?_
    rintro e w' ⟨rfl, q, rfl⟩
    go_wp2
    go_ret2
    exact MRes.nil HE.out (b_draws _ _)
end Go.Proofs.Ytlljnfljcdljaab.V
