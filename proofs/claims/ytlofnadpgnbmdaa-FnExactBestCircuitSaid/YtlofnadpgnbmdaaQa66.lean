/- Texts laid together: Crj. -/
import Derived.Test.YtlofnadpgnbmdaaQa61
import Derived.Test.YtlofnadpgnbmdaaQa65
import Derived.Test.YtlofnadpgnbmdaaQa32
set_option linter.unusedSimpArgs false
set_option linter.unusedVariables false
set_option linter.unusedSectionVars false
namespace Go.Proofs.Ytlofnadpgnbmdaa
namespace M
def bcRes (x : Int) (l : List Pc) : List Int × Int := if lvCode x l = 0 then (if allC l 10 = [] then ([], 4) else (bstL l (allC l 10), 0)) else ([], lvCode x l)
def ctRes (x : Int) (l : List Pc) : (Int × Int) × Int := if (bcRes x l).2 = 0 then (cirQ l (bcRes x l).1, 0) else ((0, 0), (bcRes x l).2)
theorem lv_tok {N : Nat} {l : List Pc} (h : lvCode (N : Int) l = 0) : isGr (N : Int) l = true ∧ ∀ c, cirB l c = true → tkS l c ≠ 0 := by
  obtain ⟨h1, h2⟩ := lv_zero h
  refine ⟨h1, fun c hc => ?_⟩
  have := cir_live (gr_ev h1).1 (by simpa using h2) hc
  omega
theorem lv_nat {x : Int} {l : List Pc} (h : lvCode x l = 0) : ∃ N : Nat, x = (N : Int) := gr_nat (lv_zero h).1
theorem bc_zero {N : Nat} {l : List Pc} (h : (bcRes (N : Int) l).2 = 0) : lvCode (N : Int) l = 0 ∧ allC l 10 ≠ [] ∧ (bcRes (N : Int) l).1 = bstL l (allC l 10) ∧ bstL l (allC l 10) ∈ allC l 10 ∧ cirB l (bstL l (allC l 10)) = true := by
  unfold bcRes at h ⊢
  by_cases h1 : lvCode (N : Int) l = 0
  · rw [if_pos h1] at h ⊢
    by_cases h2 : allC l 10 = []
    · rw [if_pos h2] at h; exact absurd h (by decide)
    · rw [if_neg h2]
      obtain ⟨g1, g2⟩ := lv_tok h1
      obtain ⟨he, -, hN, -⟩ := gr_ev g1
      obtain ⟨c, hc⟩ := List.exists_mem_of_ne_nil _ h2
      have := (bst_ge (posi_all he hN g2 10) hc).1
      exact ⟨h1, h2, rfl, this, (all_mem this).1⟩
  · rw [if_neg h1] at h; exact absurd h h1
theorem bcRes_len (x : Int) (l : List Pc) : (bcRes x l).1.length ≤ 30 := by
  by_cases h : lvCode x l = 0
  · obtain ⟨N, rfl⟩ := lv_nat h
    by_cases h2 : (bcRes (N : Int) l).2 = 0
    · obtain ⟨h3, -, h4, -, h5⟩ := bc_zero h2
      obtain ⟨he, -, hN, -⟩ := gr_ev (lv_zero h3).1
      have := cir_len he h5
      rw [h4]; omega
    · unfold bcRes at h2 ⊢
      rw [if_pos h] at h2 ⊢
      by_cases h3 : allC l 10 = []
      · rw [if_pos h3]; simp
      · rw [if_neg h3] at h2; exact absurd rfl h2
  · unfold bcRes; rw [if_neg h]; simp
end M
namespace V
set_option maxRecDepth 100000
open Go.RowKit
set_option maxRecDepth 100000 in
set_option maxHeartbeats 2000000 in
theorem bestCircuitI (x : Int) (a : Option Addr) (n cap : Nat) (l : List M.Pc) (w : World) (h : Pls w a n l) :
    Calls Try.prog 32 #[.agg #[.int .i64 x, .slice a n cap]] w (VRes (M.bcRes x l) w) := by
  have hb0 := b_alloc w (.cells #[.int .i64 x, .slice a n cap] 26)
  have hG := gBox_new w x a n cap 26
  obtain ⟨wb, hwb⟩ : ∃ z, z = w.alloc (.cells #[.int .i64 x, .slice a n cap] 26) := ⟨_, rfl⟩
  rw [← hwb] at hb0 hG
  have HB0 := Lib.hid hb0
  have HG := Lib.hid hG
  have HWb := Lib.hid hwb.symm
  have HC : Hid (Calls Try.prog 62 #[.agg #[.int .i64 x, .slice a n cap], .bool true] wb (VRes (M.lvoRes x l true) wb)) := liveOrder x a n cap l true wb (h.below hb0)
  have hlo : (M.lvoRes x l true).2 = M.lvCode x l := by
    unfold M.lvoRes
    rw [M.inCode_true]
    split
    · next q => exact q.symm
    · rfl
  obtain ⟨R, hR⟩ : ∃ R, R = M.lvoRes x l true := ⟨_, rfl⟩
  rw [← hR] at HC hlo
  by_cases h0 : M.lvCode x l = 0
  · obtain ⟨N, rfl⟩ := M.lv_nat h0
    obtain ⟨g1, g2⟩ := M.lv_tok h0
    have hR2 : R.2 = 0 := hlo.trans h0
    have HBc : Hid (∀ W, Below w.heap.size w W → Calls Try.prog 84 #[.agg #[.int .i64 N, .slice a n cap]] W fun e w' => ∃ v, e = .returned v ∧ Below W.heap.size W w' ∧ ((M.allC l 10 = [] ∧ v = .slice none 0 0) ∨ (M.allC l 10 ≠ [] ∧ ∃ b m c, v = .slice (some ⟨b, 0, none⟩) m c ∧ Own w' W.heap.size (.slice (some ⟨b, 0, none⟩) m c) (M.bstL l (M.allC l 10))))) := fun W hW => bestCircuitP N a n cap l W (h.below hW) g1 g2
    have HE : Hid (M.bcRes N l = if M.allC l 10 = [] then ([], 4) else (M.bstL l (M.allC l 10), 0)) := by show _ = _; unfold M.bcRes; rw [if_pos h0]
    have hnil0 := fun w : World => Lib.run_eql_slice_nil (P := Try.prog) w 92 2 none 0 0 0 0 Try.underlying92
    clear h hb0 hG hwb hlo hR g1 g2 h0
    obtain ⟨R1, R2⟩ := R
    have hR3 : R2 = 0 := hR2
    clear hR2
    subst hR3
    obtain ⟨g0, g1⟩ := HG.out
    go_enter Try.func32, Try.ntmps32
    go_wp2_with fail
    rw [HWb.out]
    refine HC.out.mono ?_
    rintro e w1 ⟨b1, n1, c1, rfl, -, hb⟩
    have HB1 := Lib.hid (HB0.out.trans (hb.mono HB0.out.size))
    have HG1 := Lib.hid (HG.out.below hb)
    clear hb g0 g1 HC
    obtain ⟨g0, g1⟩ := HG1.out
    go_wp2_with fail
    refine (HBc.out _ HB1.out).mono ?_
    rintro e w2 ⟨v, rfl, hb, ⟨h1, rfl⟩ | ⟨h1, b, m, c, rfl, ho⟩⟩
    · have HE2 : Hid (M.bcRes N l = ([], 4)) := HE.out.trans (if_pos h1)
      have HB2 := Lib.hid (HB1.out.trans (hb.mono HB1.out.size))
      clear hb g0 g1 h1
      go_wp2
      go_ret2
      exact VRes.nil HE2.out HB2.out
    · have HE2 : Hid (M.bcRes N l = (M.bstL l (M.allC l 10), 0)) := HE.out.trans (if_neg h1)
      have HB2 := Lib.hid (HB1.out.trans (hb.mono HB1.out.size))
      have HO2 := Lib.hid (ho.mono HB1.out.size)
      have hnil1 := fun w : World => Lib.run_eql_slice_nil (P := Try.prog) w 92 2 (some (⟨b, 0, none⟩ : Addr)) m c 0 0 Try.underlying92
      clear hb g0 g1 h1 ho
      go_wp2
      go_ret2
      rw [HE2.out]
      exact ⟨_, _, _, rfl, HO2.out, HB2.out⟩
  · have HE : Hid (M.bcRes x l = ([], M.lvCode x l)) := by show _ = _; unfold M.bcRes; rw [if_neg h0]
    have hR2 : R.2 ≠ 0 := by rw [hlo]; exact h0
    rw [← hlo] at HE
    clear h hb0 hG hwb hlo hR h0
    obtain ⟨R1, R2⟩ := R
    have hR2b : (R2 != 0) = true := by simpa using hR2
    clear hR2
    obtain ⟨g0, g1⟩ := HG.out
    go_enter Try.func32, Try.ntmps32
    go_wp2_with fail
    rw [HWb.out]
    refine HC.out.mono ?_
    rintro e w1 ⟨b1, n1, c1, rfl, -, hb⟩
    have HB1 := Lib.hid (HB0.out.trans (hb.mono HB0.out.size))
    clear hb g0 g1 HC
    go_wp2
    go_ret2
    exact VRes.nil HE.out HB1.out
set_option maxRecDepth 100000 in
set_option maxHeartbeats 2000000 in
theorem sBestCircuitS (x : Int) (a : Option Addr) (n cap : Nat) (l : List M.Pc) (w : World) (h : Pls w a n l) :
    Calls Try.prog 42 #[.agg #[.int .i64 x, .slice a n cap]] w (VRes (M.bcRes x l) w) := by
  have hb0 := b_alloc w (.cells #[.int .i64 x, .slice a n cap] 26)
  have hG := gBox_new w x a n cap 26
  obtain ⟨wb, hwb⟩ : ∃ z, z = w.alloc (.cells #[.int .i64 x, .slice a n cap] 26) := ⟨_, rfl⟩
  rw [← hwb] at hb0 hG
  have HB0 := Lib.hid hb0
  have HG := Lib.hid hG
  have HWb := Lib.hid hwb.symm
  have HC := Lib.hid (sLive x a n cap l wb (h.below hb0))
  by_cases h0 : M.lvCode x l = 0
  · obtain ⟨N, rfl⟩ := M.lv_nat h0
    obtain ⟨g1, g2⟩ := M.lv_tok h0
    have HBc : Hid (∀ W, Below w.heap.size w W → Calls Try.prog 91 #[.agg #[.int .i64 N, .slice a n cap]] W fun e w' => ∃ b' n' c', e = .returned (.tuple #[.slice b' n' c', .bool (decide (M.allC l 10 ≠ []))]) ∧ Own w' W.heap.size (.slice b' n' c') (M.bstL l (M.allC l 10)) ∧ Below W.heap.size W w') := fun W hW => sBestC N a n cap l W (h.below hW) g1 g2
    have HE : Hid (M.bcRes N l = if M.allC l 10 = [] then ([], 4) else (M.bstL l (M.allC l 10), 0)) := by show _ = _; unfold M.bcRes; rw [if_pos h0]
    rw [h0] at HC
    clear h hb0 hG hwb g1 g2 h0
    obtain ⟨g0, g1⟩ := HG.out
    go_enter Try.func42, Try.ntmps42
    go_wp2_with fail
    rw [HWb.out]
    refine HC.out.mono ?_
    rintro e w1 ⟨rfl, hb⟩
    have HB1 := Lib.hid (HB0.out.trans (hb.mono HB0.out.size))
    have HG1 := Lib.hid (HG.out.below hb)
    clear hb g0 g1 HC
    obtain ⟨g0, g1⟩ := HG1.out
    go_wp2_with fail
    refine (HBc.out _ HB1.out).mono ?_
    rintro e w2 ⟨b, m, c, rfl, ho, hb⟩
    have HB2 := Lib.hid (HB1.out.trans (hb.mono HB1.out.size))
    have HO2 := Lib.hid (ho.mono HB1.out.size)
    clear hb g0 g1 ho HBc
    by_cases h1 : M.allC l 10 = []
    · have HE2 : Hid (M.bcRes N l = ([], 4)) := HE.out.trans (if_pos h1)
      rw [decide_eq_false (fun q => q h1)]
      clear h1
      go_wp2
      go_ret2
      exact VRes.nil HE2.out HB2.out
    · have HE2 : Hid (M.bcRes N l = (M.bstL l (M.allC l 10), 0)) := HE.out.trans (if_neg h1)
      rw [decide_eq_true h1]
      clear h1
      go_wp2
      go_ret2
      rw [HE2.out]
      exact ⟨_, _, _, rfl, HO2.out, HB2.out⟩
  · have HE : Hid (M.bcRes x l = ([], M.lvCode x l)) := by show _ = _; unfold M.bcRes; rw [if_neg h0]
    obtain ⟨R2, hR2⟩ : ∃ z, z = M.lvCode x l := ⟨_, rfl⟩
    rw [← hR2] at HE HC h0
    have hR2b : (R2 != 0) = true := by simpa using h0
    clear h hb0 hG hwb hR2 h0
    obtain ⟨g0, g1⟩ := HG.out
    go_enter Try.func42, Try.ntmps42
    go_wp2_with fail
    rw [HWb.out]
    refine HC.out.mono ?_
    rintro e w1 ⟨rfl, hb⟩
    have HB1 := Lib.hid (HB0.out.trans (hb.mono HB0.out.size))
    clear hb g0 g1 HC
    go_wp2
    go_ret2
    exact VRes.nil HE.out HB1.out
end V
end Go.Proofs.Ytlofnadpgnbmdaa
