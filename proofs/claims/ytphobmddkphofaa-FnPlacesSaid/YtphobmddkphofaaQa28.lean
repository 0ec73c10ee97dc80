/- Texts laid together: Dgh. -/
import Derived.Test.YtphobmddkphofaaQa26
import Derived.Test.YtphobmddkphofaaQa2
import Derived.BigQuiet
set_option linter.unusedSimpArgs false
set_option linter.unusedVariables false
set_option linter.unusedSectionVars false
namespace Go.Proofs.Ytphobmddkphofaa
namespace V
set_option maxRecDepth 100000
open Go.RowKit
set_option maxRecDepth 100000 in
set_option maxHeartbeats 2000000 in
theorem likeGraphs (x : Int) (a : Option Addr) (n cap : Nat) (a' : Option Addr) (cap' : Nat) (l : List M.Pc) (w : World) (h : Pls w a n l) (h' : Pls w a' n l) :
    Calls Try.prog 30 #[.agg #[.int .i64 x, .slice a n cap], .agg #[.int .i64 x, .slice a' n cap']] w fun e w' => e = .returned (.bool true) ∧ Below w.heap.size w w' := by
  have hm := h.2.1
  have hm2 : (n : Int) ≤ 9223372036854775807 := by unfold maxLen at hm; omega
  clear hm
  obtain ⟨wb, hwb⟩ : ∃ z, z = (w.alloc (.cells #[.int .i64 x, .slice a n cap] 26)).alloc (.cells #[.int .i64 x, .slice a' n cap'] 26) := ⟨_, rfl⟩
  have hb2 := b_alloc2 w (.cells #[.int .i64 x, .slice a n cap] 26) (.cells #[.int .i64 x, .slice a' n cap'] 26)
  have HP := Lib.hid (show Pls wb a n l by rw [hwb]; exact h.below hb2)
  have HP' := Lib.hid (show Pls wb a' n l by rw [hwb]; exact h'.below hb2)
  have HB := Lib.hid (show Below w.heap.size w wb by rw [hwb]; exact hb2)
  have HC : Hid (wb.cell? ⟨w.heap.size, 1, none⟩ = some (.slice a n cap) ∧ wb.cell? ⟨w.heap.size + 1, 1, none⟩ = some (.slice a' n cap') ∧ w.heap.size + 1 < wb.heap.size) := by
    subst hwb
    exact ⟨by simp [go_sem], by simp [go_sem], by simp⟩
  have HW := Lib.hid hwb.symm
  clear h h' hwb hb2
  go_enter Try.func30, Try.ntmps30
  go_upto_region 3 with fail
  rw [HW.out]
  clear HW
  go_wp2
  go_loopw [5] (fun iv wr => ∃ i : Nat, iv = .int .i64 i ∧ i ≤ n ∧ Hid (Below wb.heap.size wb wr)) (fun iv _ => n - (intOf iv).toNat)
  case atStart => exact ⟨0, rfl, Nat.zero_le _, Below.refl _ _⟩
  case round =>
    obtain ⟨i, rfl, hin, HO⟩ := hrel
    obtain ⟨wo, rfl⟩ : ∃ x, x = wr := ⟨_, rfl⟩
    obtain ⟨k0, k1, kz⟩ := HC.out
    have c5 := (HO.out.cell (p := ⟨w.heap.size, 1, none⟩) (by show w.heap.size < _; omega)).trans k0
    have c6 := (HO.out.cell (p := ⟨w.heap.size + 1, 1, none⟩) kz).trans k1
    clear k0 k1
    by_cases hi : i < n
    · have hi1 : (i : Int) < (n : Int) := by omega
      obtain ⟨b, o, p0, p1, p2, p3, rfl, hl1, hp, c0, c1, c2, c3⟩ := (HP.out.below HO.out).at i hi
      obtain ⟨b', o', q0, q1, q2, q3, rfl, hl2, hp', d0, d1, d2, d3⟩ := (HP'.out.below HO.out).at i hi
      have he := hp.symm.trans hp'
      injection he with e0 he
      injection he with e1 he
      injection he with e2 e3
      subst e0 e1 e2 e3
      clear hp hp'
      go_wp2
      go_quiet (fail)
      go_wp2
      go_roundw
      case rel => exact ⟨i + 1, by go_num, by omega, HO.out.trans ((b_draws _ _).mono HO.out.size)⟩
      case measure => simp [intOf]; omega
    · have hi1 : ¬ (i : Int) < (n : Int) := by omega
      go_wp2
      go_ret
      exact ⟨rfl, HB.out.trans (HO.out.mono HB.out.size)⟩
end V
end Go.Proofs.Ytphobmddkphofaa
