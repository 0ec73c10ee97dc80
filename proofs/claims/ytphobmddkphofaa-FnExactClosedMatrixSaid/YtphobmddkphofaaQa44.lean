/- Texts laid together: Rcm. -/
import Derived.Test.YtphobmddkphofaaQa41
set_option linter.unusedSimpArgs false
set_option linter.unusedVariables false
set_option linter.unusedSectionVars false
namespace Go.Proofs.Ytphobmddkphofaa
namespace V
set_option maxRecDepth 100000
open Go.RowKit
set_option maxRecDepth 100000 in
set_option maxHeartbeats 4000000 in
theorem sClosedMatrix (x : Int) (a : Option Addr) (n cap : Nat) (l : List M.Pc) (m : Int) (w : World) (h : Pls w a n l) :
    Calls Try.prog 62 #[.agg #[.int .i64 x, .slice a n cap], .int .i64 m] w (MRes (M.cloRes x l m) w) := by
  have HI := Lib.hid h
  have hb0 := b_alloc w (.cells #[.int .i64 x, .slice a n cap] 26)
  have hG := gBox_new w x a n cap 26
  obtain ⟨wb, hwb⟩ : ∃ z, z = w.alloc (.cells #[.int .i64 x, .slice a n cap] 26) := ⟨_, rfl⟩
  rw [← hwb] at hb0 hG
  have HWb := Lib.hid hwb.symm
  have HG := Lib.hid hG
  have HB0 := Lib.hid hb0
  obtain ⟨u, hu⟩ : ∃ u, u = M.inB m 1 5 := ⟨_, rfl⟩
  obtain ⟨cd, hcd⟩ : ∃ c, c = M.inCode (M.lvCode x l) u := ⟨_, rfl⟩
  have HC : Hid (∀ w', Below wb.heap.size wb w' → Calls Try.prog 104 #[.agg #[.int .i64 x, .slice a n cap], .bool u] w' fun e w'' => e = .returned (.int .i64 cd) ∧ Below w'.heap.size w' w'') := fun w' hb' => by
    have := sCode x a n cap l u w' (h.below (hb0.trans (hb'.mono hb0.size)))
    rw [← hcd] at this
    exact this
  have HCd := Lib.hid hcd
  have HU := Lib.hid hu
  obtain ⟨g0, g1⟩ := hG
  rw [hwb] at g0 g1
  clear h hb0 hwb hcd hu
  have HUp : Hid (∀ W, Calls Try.prog 89 #[.int .i64 m, .int .i64 1, .int .i64 5] W fun e w' => e = .returned (.bool u) ∧ W = w') := fun W => by rw [HU.out]; exact sIn m 1 5 W
  by_cases h0 : cd = 0
  · subst h0
    go_enter Try.func62, Try.ntmps62
    go_wp2
    rw [HWb.out]
    clear g0 g1
    obtain ⟨g0, g1⟩ := HG.out
    go_region_with (first
      | (go_at_call 89; refine (HUp.out _).mono ?_; rintro e w' ⟨rfl, rfl⟩)
      | (go_at_call 104; refine (HC.out _ (b_draws wb 1)).mono ?_; rintro e w2 ⟨rfl, hb2⟩; have HB2 := Lib.hid ((b_draws wb 1).trans hb2); clear hb2))
    all_goals
      obtain ⟨hlv, hut⟩ := M.inCode_t HCd.out.symm
      obtain ⟨N, hxN, hgr, hlive, hnp, n1, n10⟩ := lv_live hlv
      subst hxN
      have HGr := Lib.hid hgr
      have HLive := Lib.hid hlive
      have HNp := Lib.hid hnp
      have HUt := Lib.hid hut
      have HBw := Lib.hid (HB0.out.trans (HB2.out.mono HB0.out.size))
      clear hgr hlive hnp hlv hut g0 g1
      obtain ⟨g0, g1⟩ := HG.out.below HB2.out
      have HR : Hid (M.cloRes (N : Int) l m = (M.closM l N m, 0)) := by show _ = _; unfold M.cloRes; rw [← HU.out, ← HCd.out]; rfl
      go_wp2_with fail
      refine (sClosed N a n cap l m w2 (HI.out.below HBw.out) HGr.out HLive.out).mono ?_
      rintro e w3 ⟨b3, c3, rfl, ho, hb⟩
      have HO3 := Lib.hid (ho.mono HBw.out.size)
      have HB3 := Lib.hid (HBw.out.trans (hb.mono HBw.out.size))
      clear ho hb g0 g1
      go_wp2
      go_ret2
      rw [HR.out]
      exact ⟨_, _, _, rfl, HO3.out, HB3.out⟩
  · have h0' : (cd != 0) = true := by simpa using h0
    have HR : Hid (M.cloRes x l m = ([], cd)) := by show _ = _; unfold M.cloRes; rw [← HU.out, ← HCd.out, if_neg h0]
    clear h0
    go_enter Try.func62, Try.ntmps62
    go_wp2
    rw [HWb.out]
    clear g0 g1
    obtain ⟨g0, g1⟩ := HG.out
    go_region_with (first
      | (go_at_call 89; refine (HUp.out _).mono ?_; rintro e w' ⟨rfl, rfl⟩)
      | (go_at_call 104; refine (HC.out _ (b_draws wb 1)).mono ?_; rintro e w2 ⟨rfl, hb2⟩; have HB2 := Lib.hid ((b_draws wb 1).trans hb2); clear hb2))
    all_goals
      go_wp2
      go_ret2
      exact MRes.nil HR.out (HB0.out.trans (HB2.out.mono HB0.out.size))
end V
end Go.Proofs.Ytphobmddkphofaa
