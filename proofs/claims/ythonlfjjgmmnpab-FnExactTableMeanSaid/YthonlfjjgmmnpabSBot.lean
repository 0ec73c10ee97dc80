/- The matrix of Bottom and the unit, in the model. -/
import Derived.Test.YthonlfjjgmmnpabRows
import Derived.Test.YthonlfjjgmmnpabPln
import Derived.Test.YthonlfjjgmmnpabHelp
import Derived.Test.YthonlfjjgmmnpabRows0
import Derived.Test.YthonlfjjgmmnpabOwn
import Derived.Test.YthonlfjjgmmnpabMat0
import Derived.WalkKit
import Derived.ProofKit
import Derived.WalkSmall
import Derived.Deep.QuietTactic
import Derived.BigQuiet
import Derived.BigRegion
import Derived.Deep.Draws
import Derived.Lib.Hide
import Derived.OpenShut
import Derived.Deep.OwnRows
import Derived.Test.YthonlfjjgmmnpabVals0
import Derived.Test.YthonlfjjgmmnpabApp
namespace Go.Proofs.Ythonlfjjgmmnpab.V
open Go.RowKit

/-- A new matrix r with n rows. -/
def MPost (n : Nat) (r : List (List Int)) (w : World) (e : Ending) (w' : World) : Prop :=
  ∃ a cap, e = .returned (.slice a n cap) ∧ OwnM w' w.heap.size (.slice a n cap) r ∧ Below w.heap.size w w'
/-- A new matrix and a code. -/
def MRes (r : List (List Int) × Int) (w : World) (e : Ending) (w' : World) : Prop :=
  ∃ a n cap, e = .returned (.tuple #[.slice a n cap, .int .i64 r.2]) ∧ OwnM w' w.heap.size (.slice a n cap) r.1 ∧ Below w.heap.size w w'

theorem MRes.nil {r : List (List Int) × Int} {c : Int} {w w' : World} (hr : r = ([], c)) (hb : Below w.heap.size w w') : MRes r w (.returned (.tuple #[.slice none 0 0, .int .i64 c])) w' := by
  subst hr
  exact ⟨none, 0, 0, rfl, ownM_nil _ _, hb⟩

set_option maxRecDepth 100000 in
set_option maxHeartbeats 1000000 in
theorem sBottom (m n : Nat) (w : World) (hm : m ≤ 100) (hn : n ≤ 100) :
    Calls Try.prog 122 #[.int .i64 m, .int .i64 n] w (MPost m (M.botM m n) w) := by
  have hO0 : Hid (OwnM (w.alloc (.cells #[] 30)) w.heap.size (.slice (some ⟨w.heap.size, 0, none⟩) 0 0) []) := ownM_lit0 w _ (Nat.le_refl _)
  go_enter Try.func122, Try.ntmps122
  go_wp2
  go_loopw [5, 6] (fun out i wr => ∃ k : Nat, k ≤ m ∧ i = .int .i64 k ∧ ∃ b c, out = .slice b k c ∧ OwnM wr w.heap.size (.slice b k c) (M.botM k n) ∧ Below w.heap.size w wr) (fun _ i _ => m - (intOf i).toNat)
  case atStart => exact ⟨0, Nat.zero_le _, rfl, _, _, rfl, hO0.out, b_alloc _ _⟩
  case round =>
    obtain ⟨k, hk, rfl, b, c, rfl, hO, hb⟩ := hrel
    obtain ⟨wo, rfl⟩ : ∃ x, x = wr := ⟨_, rfl⟩
    have HO := Lib.hid hO
    have HB := Lib.hid hb
    clear hO hb hO0
    by_cases hlt : k < m
    · have hki : (k : Int) < (m : Int) := by omega
      have hr0 : Hid (Own (wo.alloc (.cells #[] 2)) wo.heap.size (.slice (some ⟨wo.heap.size, 0, none⟩) 0 0) []) := own_lit0 wo _ (Nat.le_refl _)
      go_wp2
      go_loopw [7, 8] (fun row j wi => ∃ t : Nat, t ≤ n ∧ j = .int .i64 t ∧ ∃ b c, row = .slice b t c ∧ Own wi wo.heap.size (.slice b t c) ((List.range t).map fun _ => -1000000000000000) ∧ Below wo.heap.size wo wi) (fun _ j _ => n - (intOf j).toNat)
      case atStart => exact ⟨0, Nat.zero_le _, rfl, _, _, rfl, hr0.out, b_alloc _ _⟩
      case round =>
        obtain ⟨t, ht, rfl, b1, c1, rfl, hO1, hb1⟩ := hrel
        have HO1 := Lib.hid hO1
        have HB1 := Lib.hid hb1
        clear hO1 hb1 hr0
        by_cases htn : t < n
        · have hti : (t : Int) < (n : Int) := by omega
          have hsz := HB1.out.size
          go_wp2_with (at_builtin; refine append1 _ rfl (.tmp 21) (.tmp 22) rfl wo.heap.size _ _ _ t HO1.out.len.symm rfl HO1.out rfl (by simp; omega) (by omega) ?_)
          intro b2 c2 w2 hO2 hb2 _
          have HO2 := Lib.hid hO2
          have HB2 := Lib.hid (HB1.out.trans hb2)
          clear hO2 hb2
          go_wp2
          go_roundw
          case rel => exact ⟨t + 1, by omega, by go_num, _, _, rfl, by rw [M.range_snoc]; exact HO2.out, HB2.out⟩
          case measure => simp [intOf]; omega
        · obtain rfl : t = n := by omega
          have hs1 := HB.out.size
          go_wp2_with (at_builtin; refine appendRow wo _ rfl (.tmp 24) (.tmp 26) rfl w.heap.size _ _ _ _ k HO.out.len.symm rfl HO.out HB1.out HO1.out rfl (by simp [M.botM]; omega) hs1 ?_)
          intro b2 c2 w2 hO2 hb2 _
          have HO2 : Hid (OwnM w2 w.heap.size (.slice b2 (k + 1) c2) (M.botM (k + 1) t)) := by
            have := hO2
            simp only [M.botM, M.mk_length] at this
            rw [← M.mk_snoc] at this
            exact this
          clear hO2
          have hO2 := True.intro
          have HB2 := Lib.hid (HB.out.trans ((HB1.out.mono hs1).trans hb2))
          clear hO2 hb2
          go_wp2
          go_roundw
          case rel => exact ⟨k + 1, by omega, by go_num, _, _, rfl, HO2.out, HB2.out⟩
          case measure => simp [intOf]; omega
    · obtain rfl : k = m := by omega
      go_wp2
      go_ret
      exact ⟨_, _, rfl, HO.out, HB.out⟩



end Go.Proofs.Ythonlfjjgmmnpab.V
