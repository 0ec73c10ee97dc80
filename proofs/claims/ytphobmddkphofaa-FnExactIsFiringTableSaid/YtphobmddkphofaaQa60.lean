/- Texts laid together: Rcy. -/
import Derived.Test.YtphobmddkphofaaQa59
set_option linter.unusedSimpArgs false
set_option linter.unusedVariables false
set_option linter.unusedSectionVars false
namespace Go.Proofs.Ytphobmddkphofaa
namespace M
def iftB (x : Int) (l : List Pc) (T : List (List Int)) : Bool := decide (inCode (lvCode x l) (inB (T.length : Int) 0 50) = 0) && decide (timM l (ordL (wtF fOne l) x.toNat x.toNat) zst x.toNat T.length = T)
end M
namespace V
set_option maxRecDepth 100000
open Go.RowKit
set_option maxRecDepth 100000 in
set_option maxHeartbeats 2000000 in
theorem isFiringTable (x : Int) (a : Option Addr) (n cap : Nat) (l : List M.Pc) (ta : Option Addr) (tn tc : Nat) (T : List (List Int)) (w : World) (h : Pls w a n l) (hT : Mat w ta tn T) :
    Calls Try.prog 44 #[.agg #[.int .i64 x, .slice a n cap], .slice ta tn tc] w fun e w' => e = .returned (.bool (M.iftB x l T)) ∧ Below w.heap.size w w' := by
  have HT := Lib.hid hT
  have hm := hT.2.1
  unfold maxLen at hm
  have hb0 := b_alloc w (.cells #[.int .i64 x, .slice a n cap] 26)
  have hG := gBox_new w x a n cap 26
  obtain ⟨wb, hwb⟩ : ∃ z, z = w.alloc (.cells #[.int .i64 x, .slice a n cap] 26) := ⟨_, rfl⟩
  rw [← hwb] at hb0 hG
  have HWb := Lib.hid hwb.symm
  have HB0 := Lib.hid hb0
  obtain ⟨cd, hcd⟩ : ∃ c, c = M.inCode (M.lvCode x l) (M.inB (tn : Int) 0 50) := ⟨_, rfl⟩
  obtain ⟨TM, hTM⟩ : ∃ t, t = M.timM l (M.ordL (M.wtF M.fOne l) x.toNat x.toNat) M.zst x.toNat tn := ⟨_, rfl⟩
  have HC : Hid (Calls Try.prog 34 #[.agg #[.int .i64 x, .slice a n cap], .int .i64 tn] wb (MRes (if cd = 0 then (TM, 0) else ([], cd)) wb)) := by
    have := firingTimes x a n cap l (tn : Int) wb (h.below hb0)
    unfold M.ftRes at this
    rw [← hcd, Int.toNat_natCast, ← hTM] at this
    exact this
  have HR : Hid (M.iftB x l T = (decide (cd = 0) && decide (TM = T))) := by show _ = _; unfold M.iftB; rw [hT.1, ← hcd, ← hTM]
  obtain ⟨g0, g1⟩ := hG
  rw [hwb] at g0 g1
  clear h hb0 hwb hcd hTM hT
  by_cases h0 : cd = 0
  · subst h0
    rw [if_pos rfl] at HC
    have HR2 : Hid (M.iftB x l T = decide (TM = T)) := HR.out
    go_enter Try.func44, Try.ntmps44
    go_wp2_with fail
    rw [HWb.out]
    refine HC.out.mono ?_
    rintro e w2 ⟨b2, m2, c2, rfl, ho, hb⟩
    have HMt := Lib.hid ho.mat
    have HBw := Lib.hid (HB0.out.trans (hb.mono HB0.out.size))
    clear g0 g1 ho hb
    go_wp2_with fail
    refine (equalT _ _ _ TM _ _ _ T _ HMt.out (HT.out.below HBw.out)).mono ?_
    rintro e w3 ⟨rfl, hb⟩
    have HB3 := Lib.hid (HBw.out.trans (hb.mono HBw.out.size))
    clear hb
    go_wp2
    go_ret
    exact ⟨by rw [HR2.out]; rfl, HB3.out⟩
  · rw [if_neg h0] at HC
    have h0' : (cd == 0) = false := by simpa using h0
    have HR2 : Hid (M.iftB x l T = false) := by show _ = _; rw [HR.out, decide_eq_false h0]; rfl
    clear h0
    go_enter Try.func44, Try.ntmps44
    go_wp2_with fail
    rw [HWb.out]
    refine HC.out.mono ?_
    rintro e w2 ⟨b2, m2, c2, rfl, ho, hb⟩
    have HBw := Lib.hid (HB0.out.trans (hb.mono HB0.out.size))
    clear g0 g1 ho hb
    go_wp2
    go_ret
    exact ⟨by rw [HR2.out]; rfl, HBw.out⟩
end V
end Go.Proofs.Ytphobmddkphofaa
