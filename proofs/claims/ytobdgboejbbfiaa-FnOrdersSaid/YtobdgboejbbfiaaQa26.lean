/- Texts laid together: Lvf. -/
import Derived.Test.YtobdgboejbbfiaaQa25
import Derived.Test.YtobdgboejbbfiaaQa9
import Derived.Test.YtobdgboejbbfiaaQa8
import Derived.Test.YtobdgboejbbfiaaQa11
import Derived.Deep.RegionWith
import Derived.Deep.RegionHeld3
set_option linter.unusedSimpArgs false
set_option linter.unusedVariables false
set_option linter.unusedSectionVars false
namespace Go.Proofs.Ytobdgboejbbfiaa
namespace M
def liveRes (x : Int) (l : List Pc) : Bool × Int := if isGr x l then (decide ((deadQ l x.toNat).length = 0), 0) else (false, 1)
def lvCode (x : Int) (l : List Pc) : Int := if isGr x l then (if (deadQ l x.toNat).length = 0 then 0 else 5) else 1
end M
namespace V
set_option maxRecDepth 100000
open Go.RowKit
theorem keep4 {w0 w1 w2 : World} {G H : Nat} {i j k m : Nat} {p q r s : Value} (h : w1.cell? ⟨G, i, none⟩ = some p ∧ w1.cell? ⟨G, j, none⟩ = some q ∧ w1.cell? ⟨H, k, none⟩ = some r ∧ w1.cell? ⟨H, m, none⟩ = some s ∧ Below w0.heap.size w0 w1) (hb : Below w1.heap.size w1 w2) :
    w2.cell? ⟨G, i, none⟩ = some p ∧ w2.cell? ⟨G, j, none⟩ = some q ∧ w2.cell? ⟨H, k, none⟩ = some r ∧ w2.cell? ⟨H, m, none⟩ = some s ∧ Below w0.heap.size w0 w2 := by
  obtain ⟨h1, h2, h3, h4, h5⟩ := h
  exact ⟨(hb.cell (cell_lt h1)).trans h1, (hb.cell (cell_lt h2)).trans h2, (hb.cell (cell_lt h3)).trans h3, (hb.cell (cell_lt h4)).trans h4, h5.trans (hb.mono h5.size)⟩
set_option maxRecDepth 100000 in
set_option maxHeartbeats 1000000 in
theorem sDead (N : Nat) (a : Option Addr) (n cap : Nat) (l : List M.Pc) (w : World) (h : Pls w a n l) (hg : M.isGr (N : Int) l = true) :
    Calls Try.prog 69 #[.agg #[.int .i64 N, .slice a n cap]] w fun e w' => ∃ b m c, e = .returned (.slice b m c) ∧ Own w' w.heap.size (.slice b m c) (M.deadQ l N) ∧ Below w.heap.size w w' := by
  have hb0 := b_alloc w (.cells #[.int .i64 N, .slice a n cap] 26)
  have HC := Lib.hid (sFree N a n cap l _ (h.below hb0) hg)
  have hGb := gBox_new w N a n cap 26
  obtain ⟨wb, hwb⟩ : ∃ z, z = w.alloc (.cells #[.int .i64 N, .slice a n cap] 26) := ⟨_, rfl⟩
  rw [← hwb] at hb0 hGb HC
  obtain ⟨g0, g1⟩ := hGb
  have HB0 := Lib.hid hb0
  obtain ⟨n1, n2, -⟩ := gr_N hg
  have HSq : Hid (M.sqB (M.wtM M.fNil N l) = true) := M.wt_isMat n1 n2 fun p _ => M.nil_val p
  have HE : Hid (M.overL (M.ent (M.wtM M.fNil N l)) N (-1) = M.deadQ l N) := M.over_nil n2
  clear h hg hb0
  go_enter Try.func69, Try.ntmps69
  go_wp2_with fail
  rw [← hwb]
  clear hwb
  refine HC.out.mono ?_
  rintro e w1 ⟨b, c, rfl, ho, hb⟩
  have HQ := Lib.hid (sq_of ho.mat HSq.out)
  have HB := Lib.hid (HB0.out.trans (hb.mono HB0.out.size))
  clear ho hb g0 g1
  go_wp2_with fail
  refine (sOver _ _ _ _ _ _ HQ.out).mono ?_
  rintro e w2 ⟨b2, m2, c2, rfl, ho, hb⟩
  rw [HE.out] at ho
  have HO := Lib.hid (ho.mono HB.out.size)
  have HB2 := Lib.hid (HB.out.trans (hb.mono HB.out.size))
  clear ho hb
  go_wp2
  go_ret
  exact ⟨_, _, _, rfl, HO.out, HB2.out⟩
set_option maxRecDepth 100000 in
set_option maxHeartbeats 2000000 in
theorem sDeadCycle (x : Int) (a : Option Addr) (n cap : Nat) (l : List M.Pc) (w : World) (h : Pls w a n l) :
    Calls Try.prog 20 #[.agg #[.int .i64 x, .slice a n cap]] w (VRes (M.deadRes x l) w) := by
  have HI := Lib.hid h
  have hb0 := b_alloc w (.cells #[.int .i64 x, .slice a n cap] 26)
  have hG := gBox_new w x a n cap 26
  obtain ⟨wb, hwb⟩ : ∃ z, z = w.alloc (.cells #[.int .i64 x, .slice a n cap] 26) := ⟨_, rfl⟩
  rw [← hwb] at hb0 hG
  obtain ⟨r, hr⟩ : ∃ r, r = M.isGr x l := ⟨_, rfl⟩
  have HS : Hid (Calls Try.prog 68 #[.agg #[.int .i64 x, .slice a n cap]] wb fun e w' => e = .returned (.bool r) ∧ Below wb.heap.size wb w') := by rw [hr]; exact sIsEventGraph x a n cap l wb (h.below hb0)
  have HG := Lib.hid hG
  have HB0 := Lib.hid hb0
  have HRr := Lib.hid hr
  clear h hG hb0 hr
  cases r with
  | false =>
    have HR : Hid (M.deadRes x l = ([], 1)) := by show _ = _; unfold M.deadRes; rw [← HRr.out]; rfl
    go_enter Try.func20, Try.ntmps20
    go_wp2_with fail
    rw [← hwb]
    clear hwb
    refine (HS.out).mono ?_
    rintro e w1 ⟨rfl, hb1⟩
    have HB1 := Lib.hid (HB0.out.trans (hb1.mono HB0.out.size))
    obtain ⟨g0, g1⟩ := HG.out.below hb1
    clear hb1
    go_wp2
    go_ret2
    exact VRes.nil HR.out HB1.out
  | true =>
    obtain ⟨N, hN, n1, n2⟩ := gr_nat HRr.out.symm
    replace hN := hN.symm
    subst hN
    obtain ⟨q, hq⟩ : ∃ q, q = M.deadQ l N := ⟨_, rfl⟩
    have HR : Hid (M.deadRes (N : Int) l = if q.length = 0 then ([], 4) else (q, 0)) := by show _ = _; unfold M.deadRes; rw [← HRr.out, hq]; rfl
    have HC : Hid (∀ w, Pls w a n l → Calls Try.prog 69 #[.agg #[.int .i64 N, .slice a n cap]] w fun e w' => ∃ b m c, e = .returned (.slice b m c) ∧ Own w' w.heap.size (.slice b m c) q ∧ Below w.heap.size w w') := fun w h => by rw [hq]; exact sDead N a n cap l w h HRr.out.symm
    clear hq
    go_enter Try.func20, Try.ntmps20
    go_wp2_with fail
    rw [← hwb]
    clear hwb
    refine (HS.out).mono ?_
    rintro e w1 ⟨rfl, hb1⟩
    have HB1 := Lib.hid (HB0.out.trans (hb1.mono HB0.out.size))
    obtain ⟨g0, g1⟩ := HG.out.below hb1
    clear hb1
    go_wp2_with fail
    refine (HC.out w1 (HI.out.below HB1.out)).mono ?_
    rintro e w2 ⟨b2, m2, c2, rfl, ho, hb2⟩
    have HLn := Lib.hid ho.len
    have HO2 := Lib.hid (ho.mono HB1.out.size)
    have HB2 := Lib.hid (HB1.out.trans (hb2.mono HB1.out.size))
    clear g0 g1 ho hb2
    by_cases h0 : m2 = 0
    · subst h0
      have HR2 : Hid (M.deadRes (N : Int) l = ([], 4)) := by show _ = _; rw [HR.out]; exact if_pos HLn.out.symm
      go_wp2
      go_ret2
      exact VRes.nil HR2.out HB2.out
    · have HR2 : Hid (M.deadRes (N : Int) l = (q, 0)) := by show _ = _; rw [HR.out]; exact if_neg (by rw [← HLn.out]; exact h0)
      have hm : ¬ (m2 : Int) = 0 := by omega
      have hmb : ((m2 : Int) == 0) = false := by simpa using h0
      go_wp2
      go_ret2
      rw [HR2.out]
      exact ⟨_, _, _, rfl, HO2.out, HB2.out⟩
set_option maxRecDepth 100000 in
set_option maxHeartbeats 2000000 in
theorem sIsLive (x : Int) (a : Option Addr) (n cap : Nat) (l : List M.Pc) (w : World) (h : Pls w a n l) :
    Calls Try.prog 31 #[.agg #[.int .i64 x, .slice a n cap]] w (BPostC (M.liveRes x l) w) := by
  have HI := Lib.hid h
  have hb0 := b_alloc w (.cells #[.int .i64 x, .slice a n cap] 26)
  have hG := gBox_new w x a n cap 26
  obtain ⟨wb, hwb⟩ : ∃ z, z = w.alloc (.cells #[.int .i64 x, .slice a n cap] 26) := ⟨_, rfl⟩
  rw [← hwb] at hb0 hG
  obtain ⟨r, hr⟩ : ∃ r, r = M.isGr x l := ⟨_, rfl⟩
  have HS : Hid (Calls Try.prog 68 #[.agg #[.int .i64 x, .slice a n cap]] wb fun e w' => e = .returned (.bool r) ∧ Below wb.heap.size wb w') := by rw [hr]; exact sIsEventGraph x a n cap l wb (h.below hb0)
  have HG := Lib.hid hG
  have HB0 := Lib.hid hb0
  have HRr := Lib.hid hr
  clear h hG hb0 hr
  cases r with
  | false =>
    have HR : Hid (M.liveRes x l = (false, 1)) := by show _ = _; unfold M.liveRes; rw [← HRr.out]; rfl
    go_enter Try.func31, Try.ntmps31
    go_wp2_with fail
    rw [← hwb]
    clear hwb
    refine (HS.out).mono ?_
    rintro e w1 ⟨rfl, hb1⟩
    have HB1 := Lib.hid (HB0.out.trans (hb1.mono HB0.out.size))
    obtain ⟨g0, g1⟩ := HG.out.below hb1
    clear hb1
    go_wp2
    go_ret2
    exact BPostC.mk' HR.out HB1.out
  | true =>
    obtain ⟨N, hN, n1, n2⟩ := gr_nat HRr.out.symm
    replace hN := hN.symm
    subst hN
    obtain ⟨q, hq⟩ : ∃ q, q = M.deadQ l N := ⟨_, rfl⟩
    have HR : Hid (M.liveRes (N : Int) l = (decide (q.length = 0), 0)) := by show _ = _; unfold M.liveRes; rw [← HRr.out, hq]; rfl
    have HC : Hid (∀ w, Pls w a n l → Calls Try.prog 69 #[.agg #[.int .i64 N, .slice a n cap]] w fun e w' => ∃ b m c, e = .returned (.slice b m c) ∧ Own w' w.heap.size (.slice b m c) q ∧ Below w.heap.size w w') := fun w h => by rw [hq]; exact sDead N a n cap l w h HRr.out.symm
    clear hq
    go_enter Try.func31, Try.ntmps31
    go_wp2_with fail
    rw [← hwb]
    clear hwb
    refine (HS.out).mono ?_
    rintro e w1 ⟨rfl, hb1⟩
    have HB1 := Lib.hid (HB0.out.trans (hb1.mono HB0.out.size))
    obtain ⟨g0, g1⟩ := HG.out.below hb1
    clear hb1
    go_wp2_with fail
    refine (HC.out w1 (HI.out.below HB1.out)).mono ?_
    rintro e w2 ⟨b2, m2, c2, rfl, ho, hb2⟩
    have HLn := Lib.hid ho.len
    have HB2 := Lib.hid (HB1.out.trans (hb2.mono HB1.out.size))
    clear g0 g1 ho hb2
    obtain ⟨v, hv⟩ : ∃ v, v = ((m2 : Int) == 0) := ⟨_, rfl⟩
    have HR2 : Hid (M.liveRes (N : Int) l = (v, 0)) := by
      show _ = _
      rw [HR.out, hv, ← HLn.out]
      congr 1
      by_cases e : m2 = 0
      · subst e; rfl
      · rw [decide_eq_false e]; symm; simpa using e
    have hv' := hv.symm
    clear hv
    go_wp2
    go_ret2
    exact BPostC.mk' HR2.out HB2.out
set_option maxRecDepth 100000 in
set_option maxHeartbeats 2000000 in
theorem sLive (x : Int) (a : Option Addr) (n cap : Nat) (l : List M.Pc) (w : World) (h : Pls w a n l) :
    Calls Try.prog 64 #[.agg #[.int .i64 x, .slice a n cap]] w fun e w' => e = .returned (.int .i64 (M.lvCode x l)) ∧ Below w.heap.size w w' := by
  have HI := Lib.hid h
  have hb0 := b_alloc w (.cells #[.int .i64 x, .slice a n cap] 26)
  have hG := gBox_new w x a n cap 26
  obtain ⟨wb, hwb⟩ : ∃ z, z = w.alloc (.cells #[.int .i64 x, .slice a n cap] 26) := ⟨_, rfl⟩
  rw [← hwb] at hb0 hG
  obtain ⟨r, hr⟩ : ∃ r, r = M.isGr x l := ⟨_, rfl⟩
  have HS : Hid (Calls Try.prog 68 #[.agg #[.int .i64 x, .slice a n cap]] wb fun e w' => e = .returned (.bool r) ∧ Below wb.heap.size wb w') := by rw [hr]; exact sIsEventGraph x a n cap l wb (h.below hb0)
  have HG := Lib.hid hG
  have HB0 := Lib.hid hb0
  have HRr := Lib.hid hr
  clear h hG hb0 hr
  cases r with
  | false =>
    have HR : Hid (M.lvCode x l = 1) := by show _ = _; unfold M.lvCode; rw [← HRr.out]; rfl
    go_enter Try.func64, Try.ntmps64
    go_wp2_with fail
    rw [← hwb]
    clear hwb
    refine (HS.out).mono ?_
    rintro e w1 ⟨rfl, hb1⟩
    have HB1 := Lib.hid (HB0.out.trans (hb1.mono HB0.out.size))
    obtain ⟨g0, g1⟩ := HG.out.below hb1
    clear hb1
    go_wp2
    go_ret
    exact ⟨by rw [HR.out]; rfl, HB1.out⟩
  | true =>
    obtain ⟨N, hN, n1, n2⟩ := gr_nat HRr.out.symm
    replace hN := hN.symm
    subst hN
    obtain ⟨q, hq⟩ : ∃ q, q = M.deadQ l N := ⟨_, rfl⟩
    have HR : Hid (M.lvCode (N : Int) l = if q.length = 0 then 0 else 5) := by show _ = _; unfold M.lvCode; rw [← HRr.out, hq]; rfl
    have HC : Hid (∀ w, Pls w a n l → Calls Try.prog 69 #[.agg #[.int .i64 N, .slice a n cap]] w fun e w' => ∃ b m c, e = .returned (.slice b m c) ∧ Own w' w.heap.size (.slice b m c) q ∧ Below w.heap.size w w') := fun w h => by rw [hq]; exact sDead N a n cap l w h HRr.out.symm
    clear hq
    go_enter Try.func64, Try.ntmps64
    go_wp2_with fail
    rw [← hwb]
    clear hwb
    refine (HS.out).mono ?_
    rintro e w1 ⟨rfl, hb1⟩
    have HB1 := Lib.hid (HB0.out.trans (hb1.mono HB0.out.size))
    obtain ⟨g0, g1⟩ := HG.out.below hb1
    clear hb1
    go_wp2_with fail
    refine (HC.out w1 (HI.out.below HB1.out)).mono ?_
    rintro e w2 ⟨b2, m2, c2, rfl, ho, hb2⟩
    have HLn := Lib.hid ho.len
    have HB2 := Lib.hid (HB1.out.trans (hb2.mono HB1.out.size))
    clear g0 g1 ho hb2
    by_cases h0 : m2 = 0
    · subst h0
      have HR2 : Hid (M.lvCode (N : Int) l = 0) := by show _ = _; rw [HR.out]; exact if_pos HLn.out.symm
      go_wp2
      go_ret
      exact ⟨by rw [HR2.out]; rfl, HB2.out⟩
    · have HR2 : Hid (M.lvCode (N : Int) l = 5) := by show _ = _; rw [HR.out]; exact if_neg (by rw [← HLn.out]; exact h0)
      have hm : 0 < (m2 : Int) := by omega
      go_wp2
      go_ret
      exact ⟨by rw [HR2.out]; rfl, HB2.out⟩
set_option maxRecDepth 100000 in
set_option maxHeartbeats 2000000 in
theorem sIsStrong (x : Int) (a : Option Addr) (n cap : Nat) (l : List M.Pc) (w : World) (h : Pls w a n l) :
    Calls Try.prog 27 #[.agg #[.int .i64 x, .slice a n cap]] w (BPostC (M.strRes x l) w) := by
  have HI := Lib.hid h
  have hb0 := b_alloc w (.cells #[.int .i64 x, .slice a n cap] 26)
  have hG := gBox_new w x a n cap 26
  obtain ⟨wb, hwb⟩ : ∃ z, z = w.alloc (.cells #[.int .i64 x, .slice a n cap] 26) := ⟨_, rfl⟩
  rw [← hwb] at hb0 hG
  obtain ⟨r, hr⟩ : ∃ r, r = M.isGr x l := ⟨_, rfl⟩
  have HS : Hid (Calls Try.prog 68 #[.agg #[.int .i64 x, .slice a n cap]] wb fun e w' => e = .returned (.bool r) ∧ Below wb.heap.size wb w') := by rw [hr]; exact sIsEventGraph x a n cap l wb (h.below hb0)
  have HG := Lib.hid hG
  have HB0 := Lib.hid hb0
  have HRr := Lib.hid hr
  clear h hG hb0 hr
  cases r with
  | false =>
    have HR : Hid (M.strRes x l = (false, 1)) := by show _ = _; unfold M.strRes; rw [← HRr.out]; rfl
    go_enter Try.func27, Try.ntmps27
    go_wp2_with fail
    rw [← hwb]
    clear hwb
    refine (HS.out).mono ?_
    rintro e w1 ⟨rfl, hb1⟩
    have HB1 := Lib.hid (HB0.out.trans (hb1.mono HB0.out.size))
    obtain ⟨g0, g1⟩ := HG.out.below hb1
    clear hb1
    go_wp2
    go_ret2
    exact BPostC.mk' HR.out HB1.out
  | true =>
    obtain ⟨N, hN, n1, n2⟩ := gr_nat HRr.out.symm
    replace hN := hN.symm
    subst hN
    have hTk := M.gr_tok HRr.out.symm
    obtain ⟨m, hm⟩ : ∃ m, m = (M.compsL (M.ent (M.wtM M.fTok N l)) N).length := ⟨_, rfl⟩
    have HR : Hid (M.strRes (N : Int) l = (((m : Int) == 1), 0)) := by
      show _ = _
      unfold M.strRes
      rw [← HRr.out, show ((N : Int)).toNat = N from rfl, ← M.str_two n1 hTk, ← hm]
      show (decide (m = 1), (0 : Int)) = _
      congr 1
      by_cases e : m = 1
      · subst e; rfl
      · rw [decide_eq_false e]; symm; simp; omega
    have HSq : Hid (M.sqB (M.wtM M.fTok N l) = true) := M.wt_isMat n1 n2 (M.tok_val hTk)
    have HM := Lib.hid hm
    clear hTk hm
    go_enter Try.func27, Try.ntmps27
    go_wp2_with fail
    rw [← hwb]
    clear hwb
    refine (HS.out).mono ?_
    rintro e w1 ⟨rfl, hb1⟩
    have HB1 := Lib.hid (HB0.out.trans (hb1.mono HB0.out.size))
    obtain ⟨g0, g1⟩ := HG.out.below hb1
    clear hb1
    go_wp2_with fail
    refine (sTokens N a n cap l w1 (HI.out.below HB1.out) HRr.out.symm).mono ?_
    rintro e w2 ⟨b2, c2, rfl, ho, hb2⟩
    have HQ2 := Lib.hid (sq_of ho.mat HSq.out)
    have HB2 := Lib.hid (HB1.out.trans (hb2.mono HB1.out.size))
    clear g0 g1 ho hb2
    go_wp2_with fail
    refine (sComponents _ _ _ _ _ HQ2.out).mono ?_
    rintro e w3 ⟨b3, m3, c3, rfl, ho, hb3⟩
    have hm3 : m3 = m := by rw [ho.len, HM.out]
    subst hm3
    have HB3 := Lib.hid (HB2.out.trans (hb3.mono HB2.out.size))
    clear ho hb3
    go_wp2
    go_ret2
    exact BPostC.mk' HR.out HB3.out
set_option maxRecDepth 100000 in
set_option maxHeartbeats 2000000 in
theorem sDistance (N : Nat) (a : Option Addr) (n cap : Nat) (l : List M.Pc) (fj ti : Nat) (w : World) (h : Pls w a n l) (hg : M.isGr (N : Int) l = true) (hj : fj < N) (hi : ti < N) :
    Calls Try.prog 86 #[.agg #[.int .i64 N, .slice a n cap], .int .i64 fj, .int .i64 ti] w fun e w' => e = .returned (.tuple #[.int .i64 (-(M.tdF l N ti fj)), .bool (decide (M.tdF l N ti fj ≠ -1000000000000000))]) ∧ Below w.heap.size w w' := by
  have hb0 := b_alloc w (.cells #[.int .i64 N, .slice a n cap] 26)
  have HC := Lib.hid (sTokens N a n cap l _ (h.below hb0) hg)
  have hGb := gBox_new w N a n cap 26
  obtain ⟨wb, hwb⟩ : ∃ z, z = w.alloc (.cells #[.int .i64 N, .slice a n cap] 26) := ⟨_, rfl⟩
  rw [← hwb] at hb0 hGb HC
  obtain ⟨g0, g1⟩ := hGb
  have HB0 := Lib.hid hb0
  obtain ⟨n1, n2, -⟩ := gr_N hg
  have hTk := M.gr_tok hg
  have HNp : Hid (M.noPos (M.ent (M.wtM M.fTok N l)) N = true) := by show _ = _; rw [M.wt_noPos]; exact M.tok_noPos n2 hTk
  have HSq : Hid (M.sqB (M.wtM M.fTok N l) = true) := M.wt_isMat n1 n2 (M.tok_val hTk)
  have hsm := M.td_sm n2 hTk hi hj
  have hji : (fj : Int) < (N : Int) := by omega
  have hii : (ti : Int) < (N : Int) := by omega
  have HEn : Hid (((M.starM (M.wtM M.fTok N l) N).getD ti []).getD fj 0 = M.tdF l N ti fj) := M.wt_star M.fTok hi hj
  have HRl : Hid (((M.starM (M.wtM M.fTok N l) N).getD ti []).length = N) := M.mk_rowlen _ _ _ _ hi
  obtain ⟨d, hd⟩ : ∃ d, d = M.tdF l N ti fj := ⟨_, rfl⟩
  rw [← hd] at hsm HEn ⊢
  have hneg : wrap64 (-d) = -d := IntWalk.wrap64_in _ (by unfold M.Sm at hsm; omega)
  have hneg' : IntKind.i64.wrap (-d) = -d := IntWalk.i64_in _ (by unfold M.Sm at hsm; omega)
  clear h hg hb0 hTk hd hsm
  go_enter Try.func86, Try.ntmps86
  go_wp2_with fail
  rw [← hwb]
  clear hwb
  refine HC.out.mono ?_
  rintro e w1 ⟨b, c, rfl, ho, hb⟩
  have HQ := Lib.hid (sq_of ho.mat HSq.out)
  have HB := Lib.hid (HB0.out.trans (hb.mono HB0.out.size))
  clear ho hb g0 g1
  go_wp2_with fail
  refine (sStar _ _ _ _ _ HQ.out).mono ?_
  rintro e w2 ⟨b2, c2, rfl, ho, hb⟩
  rw [M.bm_star n2 HQ.out.2.2.1 HNp.out] at ho
  have HB2 := Lib.hid (HB.out.trans (hb.mono HB.out.size))
  obtain ⟨o, q, L, rc, y, rfl, ho1, hq1, hL, hy, m1, m2, m3, m4⟩ := ho.at ti fj hi (by rw [HRl.out]; exact hj)
  rw [HRl.out] at hL
  rw [HEn.out] at hy
  replace hL := hL.symm
  subst hL hy
  clear ho hb m4
  go_wp2
  go_quiet (fail)
  go_wp2
  go_ret2
  exact ⟨by simp [hneg]; by_cases q : y = -1000000000000000 <;> simp [q], below_drewN HB2.out _⟩
set_option maxRecDepth 100000 in
set_option maxHeartbeats 2000000 in
theorem sTokenDistance (x : Int) (a : Option Addr) (n cap : Nat) (l : List M.Pc) (f t : Int) (w : World) (h : Pls w a n l) :
    Calls Try.prog 38 #[.agg #[.int .i64 x, .slice a n cap], .int .i64 f, .int .i64 t] w (PPost (M.tokRes x l f t) w) := by
  have HI := Lib.hid h
  have hb0 := b_alloc w (.cells #[.int .i64 x, .slice a n cap] 26)
  have hG := gBox_new w x a n cap 26
  obtain ⟨wb, hwb⟩ : ∃ z, z = w.alloc (.cells #[.int .i64 x, .slice a n cap] 26) := ⟨_, rfl⟩
  rw [← hwb] at hb0 hG
  obtain ⟨r, hr⟩ : ∃ r, r = M.isGr x l := ⟨_, rfl⟩
  have HS : Hid (Calls Try.prog 68 #[.agg #[.int .i64 x, .slice a n cap]] wb fun e w' => e = .returned (.bool r) ∧ Below wb.heap.size wb w') := by rw [hr]; exact sIsEventGraph x a n cap l wb (h.below hb0)
  have HG := Lib.hid hG
  have HB0 := Lib.hid hb0
  have HRr := Lib.hid hr
  clear h hG hb0 hr
  cases r with
  | false =>
    have HR : Hid (M.tokRes x l f t = (0, 1)) := by show _ = _; unfold M.tokRes; rw [← HRr.out]; rfl
    go_enter Try.func38, Try.ntmps38
    go_wp2_with fail
    rw [← hwb]
    clear hwb
    refine (HS.out).mono ?_
    rintro e w1 ⟨rfl, hb1⟩
    have HB1 := Lib.hid (HB0.out.trans (hb1.mono HB0.out.size))
    obtain ⟨g0, g1⟩ := HG.out.below hb1
    clear hb1
    go_wp2
    go_ret2
    exact PPost.mk' HR.out HB1.out
  | true =>
    obtain ⟨N, hN, n1, n2⟩ := gr_nat HRr.out.symm
    replace hN := hN.symm
    subst hN
    cases hf : (decide (0 ≤ f) && decide (f ≤ (N : Int) - 1)) with
    | false =>
      have HR : Hid (M.tokRes N l f t = (0, 2)) := by show _ = _; unfold M.tokRes; rw [← HRr.out, show M.inB f 0 ((N : Int) - 1) = false from hf]; rfl
      go_enter Try.func38, Try.ntmps38
      go_wp2_with fail
      rw [← hwb]
      clear hwb
      refine (HS.out).mono ?_
      rintro e w1 ⟨rfl, hb1⟩
      have HB1 := Lib.hid (HB0.out.trans (hb1.mono HB0.out.size))
      have HG1 := Lib.hid (HG.out.below hb1)
      obtain ⟨g0, g1⟩ := HG1.out
      clear hb1
      go_wp2_with (go_at_call 85; refine (sIn _ _ _ _).mono ?_; rintro e w' ⟨rfl, rfl⟩)
      go_ret2
      exact PPost.mk' HR.out HB1.out
    | true =>
      cases ht : (decide (0 ≤ t) && decide (t ≤ (N : Int) - 1)) with
      | false =>
        have HR : Hid (M.tokRes N l f t = (0, 2)) := by show _ = _; unfold M.tokRes; rw [← HRr.out, show M.inB f 0 ((N : Int) - 1) = true from hf, show M.inB t 0 ((N : Int) - 1) = false from ht]; rfl
        go_enter Try.func38, Try.ntmps38
        go_wp2_with fail
        rw [← hwb]
        clear hwb
        refine (HS.out).mono ?_
        rintro e w1 ⟨rfl, hb1⟩
        have HB1 := Lib.hid (HB0.out.trans (hb1.mono HB0.out.size))
        have HG1 := Lib.hid (HG.out.below hb1)
        obtain ⟨g0, g1⟩ := HG1.out
        clear hb1
        go_wp2_with (go_at_call 85; refine (sIn _ _ _ _).mono ?_; rintro e w' ⟨rfl, rfl⟩)
        go_ret2
        exact PPost.mk' HR.out HB1.out
      | true =>
        have HR : Hid (M.tokRes N l f t = M.tdN (M.tdF l N t.toNat f.toNat)) := by show _ = _; unfold M.tokRes; rw [← HRr.out, show M.inB f 0 ((N : Int) - 1) = true from hf, show M.inB t 0 ((N : Int) - 1) = true from ht]; rfl
        obtain ⟨fj, ti, hfj, hti, hjN, hiN⟩ : ∃ fj ti : Nat, f = (fj : Int) ∧ t = (ti : Int) ∧ fj < N ∧ ti < N := by
          simp only [Bool.and_eq_true, decide_eq_true_eq] at hf ht
          exact ⟨f.toNat, t.toNat, by omega, by omega, by omega, by omega⟩
        subst hfj hti
        have hji : (fj : Int) ≤ (N : Int) - 1 := by omega
        have hii : (ti : Int) ≤ (N : Int) - 1 := by omega
        have HD := Lib.hid (sDistance N a n cap l fj ti · · HRr.out.symm hjN hiN)
        obtain ⟨d, hd⟩ : ∃ d, d = M.tdF l N ti fj := ⟨_, rfl⟩
        rw [show ((ti : Int)).toNat = ti from rfl, show ((fj : Int)).toNat = fj from rfl, ← hd] at HR
        rw [← hd] at HD
        obtain ⟨v, hv⟩ : ∃ v, v = decide (d ≠ -1000000000000000) := ⟨_, rfl⟩
        rw [← hv] at HD
        have HVd := Lib.hid hv
        clear hd hv
        go_enter Try.func38, Try.ntmps38
        go_wp2_with fail
        rw [← hwb]
        clear hwb
        refine (HS.out).mono ?_
        rintro e w1 ⟨rfl, hb1⟩
        have HB1 := Lib.hid (HB0.out.trans (hb1.mono HB0.out.size))
        have HG1 := Lib.hid (HG.out.below hb1)
        obtain ⟨g0, g1⟩ := HG1.out
        clear hb1
        go_wp2_with (go_at_call 85; refine (sIn _ _ _ _).mono ?_; rintro e w' ⟨rfl, rfl⟩)
        refine (HD.out w1 (HI.out.below HB1.out)).mono ?_
        rintro e w2 ⟨rfl, hb2⟩
        have HB2 := Lib.hid (HB1.out.trans (hb2.mono HB1.out.size))
        clear hb2 g0 g1
        cases v with
        | false =>
          have hbot := of_decide_eq_false HVd.out.symm
          simp only [ne_eq, Decidable.not_not] at hbot
          have HR2 : Hid (M.tdN d = (0, 4)) := if_pos hbot
          clear hbot
          go_wp2
          go_ret2
          exact PPost.mk' (HR.out.trans HR2.out) HB2.out
        | true =>
          have hbot := of_decide_eq_true HVd.out.symm
          have HR2 : Hid (M.tdN d = (-d, 0)) := if_neg hbot
          clear hbot
          go_wp2
          go_ret2
          exact PPost.mk' (HR.out.trans HR2.out) HB2.out
set_option maxRecDepth 100000 in
set_option maxHeartbeats 4000000 in
theorem sTokenBound (x : Int) (a : Option Addr) (n cap : Nat) (l : List M.Pc) (i : Int) (w : World) (h : Pls w a n l) :
    Calls Try.prog 40 #[.agg #[.int .i64 x, .slice a n cap], .int .i64 i] w (PPost (M.bndRes x l i) w) := by
  have HI := Lib.hid h
  have HL : Hid (l.length = n) := h.1
  have hb0 := b_alloc w (.cells #[.int .i64 x, .slice a n cap] 26)
  have hG := gBox_new w x a n cap 26
  obtain ⟨wb, hwb⟩ : ∃ z, z = w.alloc (.cells #[.int .i64 x, .slice a n cap] 26) := ⟨_, rfl⟩
  rw [← hwb] at hb0 hG
  obtain ⟨cd, hcd⟩ : ∃ c, c = M.ixCode x l i := ⟨_, rfl⟩
  have HS : Hid (Calls Try.prog 89 #[.agg #[.int .i64 x, .slice a n cap], .int .i64 i] wb fun e w' => e = .returned (.int .i64 cd) ∧ Below wb.heap.size wb w') := by rw [hcd]; exact sIndex x a n cap l i wb (h.below hb0)
  have HG := Lib.hid hG
  have HB0 := Lib.hid hb0
  have HCd := Lib.hid hcd
  have HR1 : Hid (cd ≠ 0 → M.bndRes x l i = (0, cd)) := fun q => by
    have hcd := HCd.out
    rw [hcd] at q ⊢
    unfold M.ixCode at q ⊢
    unfold M.bndRes
    cases hg : M.isGr x l with
    | false => rfl
    | true =>
      rw [hg] at q
      cases he : M.inB i 0 ((l.length : Int) - 1) with
      | false => rfl
      | true => rw [he] at q; simp at q
  have HR0 : Hid (cd = 0 → M.isGr x l = true ∧ M.inB i 0 ((l.length : Int) - 1) = true) := fun q => by
    have hcd := HCd.out
    rw [hcd] at q
    unfold M.ixCode at q
    cases hg : M.isGr x l with
    | false => rw [hg] at q; simp at q
    | true =>
      rw [hg] at q
      cases he : M.inB i 0 ((l.length : Int) - 1) with
      | false => rw [he] at q; simp at q
      | true => exact ⟨rfl, rfl⟩
  clear h hG hb0 hcd
  by_cases h0 : cd = 0
  · obtain ⟨hg, hx⟩ := HR0.out h0
    have HRr := Lib.hid hg.symm
    obtain ⟨N, hN, n1, n2⟩ := gr_nat hg
    replace hN := hN.symm
    subst hN h0
    have HV := Lib.hid hx
    obtain ⟨k, hk, hkn⟩ : ∃ k : Nat, i = (k : Int) ∧ k < n := by
      rw [HL.out] at hx
      unfold M.inB at hx
      simp only [Bool.and_eq_true, decide_eq_true_eq] at hx
      exact ⟨i.toNat, by omega, by omega⟩
    subst hk
    have hki : (k : Int) < (n : Int) := by omega
    obtain ⟨pb, off, p0, p1, p2, p3, rfl, hpb, hp, c0, c1, c2, c3⟩ := HI.out.at k hkn
    obtain ⟨ii, jj, hi, hj, e1, e0, -, -, t3, t3'⟩ := gr_at hg (by rw [HL.out]; exact hkn) hp
    have hTk := M.gr_tok hg
    have hsm := M.td_sm n2 hTk hj hi
    have HR : Hid (M.bndRes N l (k : Int) = M.tdP (M.tdF l N jj ii) p3) := by
      show _ = _
      unfold M.bndRes
      rw [hg, HV.out, show ((k : Int)).toNat = k from rfl, hp, e1, e0]; rfl
    have HD := Lib.hid (sDistance N (some ⟨pb, off, none⟩) n cap l ii jj · · hg hi hj)
    obtain ⟨d, hd⟩ : ∃ d, d = M.tdF l N jj ii := ⟨_, rfl⟩
    rw [← hd] at hsm HR HD
    rw [← e1, ← e0] at HD
    obtain ⟨v, hv⟩ : ∃ v, v = decide (d ≠ -1000000000000000) := ⟨_, rfl⟩
    rw [← hv] at HD
    have HVd := Lib.hid hv
    clear hv
    clear hp hd hTk e1 e0 hi hj hg hx
    go_enter Try.func40, Try.ntmps40
    go_wp2_with fail
    rw [← hwb]
    clear hwb
    refine (HS.out).mono ?_
    rintro e w1 ⟨rfl, hb1⟩
    have HB1 := Lib.hid (HB0.out.trans (hb1.mono HB0.out.size))
    have HG1 := Lib.hid (HG.out.below hb1)
    obtain ⟨g0, g1⟩ := HG1.out
    have d0 := (HB1.out.cell (p := ⟨pb, _, none⟩) hpb).trans c0
    have d1 := (HB1.out.cell (p := ⟨pb, _, none⟩) hpb).trans c1
    have d3 := (HB1.out.cell (p := ⟨pb, _, none⟩) hpb).trans c3
    have HC3 := Lib.hid c3
    clear hb1 c0 c1 c2 c3
    go_wp2
    go_region_held3 (fun w' => w'.cell? ⟨w.heap.size, 0, none⟩ = some (.int .i64 N) ∧ w'.cell? ⟨w.heap.size, 1, none⟩ = some (.slice (some ⟨pb, off, none⟩) n cap) ∧ w'.cell? ⟨pb, off + k * 4, none⟩ = some (.int .i64 p0) ∧ w'.cell? ⟨pb, off + k * 4 + 1, none⟩ = some (.int .i64 p1) ∧ Below w1.heap.size w1 w')
      (first | exact ⟨g0, g1, d0, d1, (Below.refl _ _).drew⟩ | exact keep4 ‹_ ∧ _ ∧ _ ∧ _ ∧ Below _ _ _› hb2 | assumption)
      ((go_at_call 86; refine (HD.out _ (HI.out.below (HB1.out.trans ((b_draws w1 1).mono HB1.out.size)))).mono ?_; rintro e w2 ⟨rfl, hb2⟩; have HB2 : Hid (Below w.heap.size w w2) := HB1.out.trans (((b_draws w1 1).trans hb2).mono HB1.out.size); have f0 := (((b_draws w1 1).trans hb2).cell (cell_lt g0)).trans g0; have f1 := (((b_draws w1 1).trans hb2).cell (cell_lt g1)).trans g1; have k3 := (HB2.out.cell (p := ⟨pb, _, none⟩) hpb).trans HC3.out))
    all_goals
      cases v with
      | false =>
        have hbot := of_decide_eq_false HVd.out.symm
        simp only [ne_eq, Decidable.not_not] at hbot
        have HR2 : Hid (M.tdP d p3 = (0, 4)) := if_pos hbot
        clear hbot
        go_wp2
        go_ret2
        exact PPost.mk' (HR.out.trans HR2.out) HB2.out
      | true =>
        have hbot := of_decide_eq_true HVd.out.symm
        have hsum : wrap64 (p3 + -d) = p3 + -d := IntWalk.wrap64_in _ (by unfold M.Sm at hsm; omega)
        have HR2 : Hid (M.tdP d p3 = (wrap64 (p3 + -d), 0)) := by show _ = _; rw [hsum]; exact if_neg hbot
        clear hbot
        go_wp2
        go_ret2
        exact PPost.mk' (HR.out.trans HR2.out) HB2.out
  · have HR := Lib.hid (HR1.out h0)
    have hb : (cd != 0) = true := by simpa using h0
    go_enter Try.func40, Try.ntmps40
    go_wp2_with fail
    rw [← hwb]
    clear hwb
    refine (HS.out).mono ?_
    rintro e w1 ⟨rfl, hb1⟩
    have HB1 := Lib.hid (HB0.out.trans (hb1.mono HB0.out.size))
    obtain ⟨g0, g1⟩ := HG.out.below hb1
    clear hb1
    go_wp2
    go_ret2
    exact PPost.mk' HR.out HB1.out
end V
end Go.Proofs.Ytobdgboejbbfiaa
