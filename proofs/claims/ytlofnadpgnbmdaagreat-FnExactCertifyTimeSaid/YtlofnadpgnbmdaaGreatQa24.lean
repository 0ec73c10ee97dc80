/- Texts laid together: IBot. -/
import Derived.Test.YtlofnadpgnbmdaaGreatRows
import Derived.Test.YtlofnadpgnbmdaaGreatQa1
import Derived.Test.YtlofnadpgnbmdaaGreatQa2
import Derived.WalkKit
import Derived.ProofKit
import Derived.WalkSmall
import Derived.Deep.QuietTactic
import Derived.BigQuiet
import Derived.BigRegion
import Derived.Deep.Draws
import Derived.Lib.Hide
import Derived.OpenShut
import Derived.Deep.OwnRows
import Derived.Test.YtlofnadpgnbmdaaGreatQa3
import Derived.Test.YtlofnadpgnbmdaaGreatQa4
import Derived.Test.YtlofnadpgnbmdaaGreatQa23
set_option linter.unusedSimpArgs false
set_option linter.unusedVariables false
set_option linter.unusedSectionVars false
namespace Go.Proofs.YtlofnadpgnbmdaaGreat.V
open Go.RowKit

set_option maxRecDepth 100000 in
set_option maxHeartbeats 1000000 in
theorem filled (m n : Nat) (x : Int) (w : World) (m1 : 1 ≤ m) (hm : m ≤ 10) (n1 : 1 ≤ n) (hn : n ≤ 10) :
    Calls Tryz.prog 46 #[.int .i64 m, .int .i64 n, .int .i64 x] w (MPost m (M.mk m n fun _ _ => x) w) := by
  have hmk := run_make_row' (P := Tryz.prog) 28 43 (.slice none 0 0) 24 Tryz.underlying28 infoS64 rfl .i64 .i64 m (by omega) (by omega)
  have hO0 : Hid (OwnM (w.alloc (.cells (madeCells #[.slice none 0 0] m) 43)) w.heap.size (.slice (some ⟨w.heap.size, 0, none⟩) m m) (List.replicate m [])) := ownM_made w _ m (Nat.le_refl _) (by unfold maxLen; omega)
  go_enter Tryz.func46, Tryz.ntmps46
  go_wp2
  clear hmk
  go_loopw [8, 13] (fun _ i wr => ∃ k : Nat, k ≤ m ∧ i = .int .i64 k ∧ OwnM wr w.heap.size (.slice (some ⟨w.heap.size, 0, none⟩) m m) ((List.range m).map fun j => if j < k then (List.range n).map (fun _ => x) else []) ∧ Below w.heap.size w wr) (fun _ i _ => m - (intOf i).toNat)
  case atStart =>
    refine ⟨0, Nat.zero_le _, rfl, (congrArg (OwnM _ _ _) ?_).mp hO0.out, b_alloc _ _⟩
    apply List.ext_getElem
    · simp
    · intro i h1 h2; simp
  case round =>
    obtain ⟨k, hk, rfl, hO, hb⟩ := hrel
    have HO := Lib.hid hO
    have HB := Lib.hid hb
    clear hO hb hO0
    by_cases hlt : k < m
    · have hki : (k : Int) < (m : Int) := by omega
      have hg := HO.out.lt rfl
      have hlit := one_lit wr x
      go_wp2_with fail
      refine (repeat1 wr.heap.size n 1 x _ n1 (by omega) hlit (by simp)).mono ?_
      rintro e w1 ⟨rfl, ho1, hb1⟩
      have hb1' : Below wr.heap.size wr w1 := (b_alloc wr _).trans (hb1.mono (by simp))
      rw [show (wr.alloc (.cells #[.int .i64 x] 2)).heap.size = wr.heap.size + 1 by simp] at ho1
      have ho1' := ho1.mono (Nat.le_succ _)
      have hst : ∃ v, w1.cell? ⟨w.heap.size, k, none⟩ = some v := by
        obtain ⟨v, hv⟩ := HO.out.outer k hlt
        exact ⟨v, by rw [hb1'.cell (p := ⟨w.heap.size, k, none⟩) hg]; exact hv⟩
      obtain ⟨v, hst⟩ := hst
      have hfz : w1.frozen? ⟨w.heap.size, k, none⟩ = false := by rw [hb1'.frozen (p := ⟨w.heap.size, k, none⟩) hg]; exact HO.out.outerFz k
      have HN := Lib.hid (HO.out.setRow hb1' HB.out.size ho1' k hlt)
      have HB1 := Lib.hid (bnext HB.out hb1')
      clear ho1 hb1 hg hlit hb1' ho1'
      go_wp2
      go_roundw
      case rel =>
        refine ⟨k + 1, by omega, by go_num, ?_, HB1.out.setCell (Nat.le_refl _) _⟩
        refine (congrArg (OwnM _ _ _) ?_).mp HN.out
        apply List.ext_getElem
        · simp
        · intro j h1 h2
          simp only [List.length_map, List.length_range] at h2
          rw [List.getElem_set]
          simp only [List.getElem_map, List.getElem_range]
          by_cases e : k = j
          · subst e; rw [if_pos rfl, if_pos (by omega)]
          · rw [if_neg e]
            by_cases e2 : j < k
            · rw [if_pos e2, if_pos (by omega)]
            · rw [if_neg e2, if_neg (by omega)]
      case measure => simp [intOf]; omega
    · have hkn : k = m := by omega
      subst hkn
      go_wp2
      go_ret
      refine ⟨_, _, rfl, (congrArg (OwnM _ _ _) ?_).mp HO.out, HB.out⟩
      unfold M.mk
      exact List.map_congr_left fun j hj => by rw [if_pos (List.mem_range.1 hj)]

end Go.Proofs.YtlofnadpgnbmdaaGreat.V
