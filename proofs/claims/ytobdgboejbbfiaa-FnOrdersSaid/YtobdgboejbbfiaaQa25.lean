/- Texts laid together: Lve. -/
import Derived.Test.YtobdgboejbbfiaaQa21
import Derived.Test.YtobdgboejbbfiaaQa24
import Derived.Test.YtobdgboejbbfiaaQa8
import Derived.Test.YtobdgboejbbfiaaQa10
import Derived.Test.YtobdgboejbbfiaaQa13
set_option linter.unusedSimpArgs false
set_option linter.unusedVariables false
set_option linter.unusedSectionVars false
namespace Go.Proofs.Ytobdgboejbbfiaa
namespace M
def deadRes (x : Int) (l : List Pc) : List Int × Int := if isGr x l then (if (deadQ l x.toNat).length = 0 then ([], 4) else (deadQ l x.toNat, 0)) else ([], 1)
theorem deadRes_len (x : Int) (l : List Pc) : (deadRes x l).1.length ≤ 30 := by
  unfold deadRes
  split
  · next h =>
    have hx : x.toNat ≤ 10 := by
      unfold isGr inB at h
      simp only [Bool.and_eq_true, decide_eq_true_eq] at h
      omega
    split
    · simp
    · have := dead_len (l := l) hx
      show (deadQ l x.toNat).length ≤ 30
      omega
  · simp
def strRes (x : Int) (l : List Pc) : Bool × Int := if isGr x l then (strB l x.toNat, 0) else (false, 1)
def tdN (d : Int) : Int × Int := if d = -1000000000000000 then (0, 4) else (-d, 0)
def tokRes (x : Int) (l : List Pc) (f t : Int) : Int × Int := if isGr x l then (if inB f 0 (x - 1) && inB t 0 (x - 1) then tdN (tdF l x.toNat t.toNat f.toNat) else (0, 2)) else (0, 1)
def tdP (d k : Int) : Int × Int := if d = -1000000000000000 then (0, 4) else (k + -d, 0)
def bndRes (x : Int) (l : List Pc) (i : Int) : Int × Int := if isGr x l then (if inB i 0 ((l.length : Int) - 1) then tdP (tdF l x.toNat (l.getD i.toNat pz).1.toNat (l.getD i.toNat pz).2.1.toNat) (l.getD i.toNat pz).2.2.2 else (0, 2)) else (0, 1)
theorem gr_tok {x : Int} {l : List Pc} (h : isGr x l = true) : ∀ p ∈ l, 0 ≤ p.2.2.2 ∧ p.2.2.2 ≤ 5 := fun p hp => by
  unfold isGr at h
  simp only [Bool.and_eq_true, List.all_eq_true] at h
  have := h.2.2 p hp
  unfold plW inB at this
  simp only [Bool.and_eq_true, decide_eq_true_eq] at this
  omega
end M
namespace V
set_option maxRecDepth 100000
open Go.RowKit
def PPost (r : Int × Int) (w : World) (e : Ending) (w' : World) : Prop := e = .returned (.tuple #[.int .i64 r.1, .int .i64 r.2]) ∧ Below w.heap.size w w'
theorem PPost.mk' {r : Int × Int} {b c : Int} {w w' : World} (hr : r = (b, c)) (hb : Below w.heap.size w w') : PPost r w (.returned (.tuple #[.int .i64 b, .int .i64 c])) w' := by subst hr; exact ⟨rfl, hb⟩
/-- A valid graph has a number of events. -/
theorem gr_nat {x : Int} {l : List M.Pc} (h : M.isGr x l = true) : ∃ N : Nat, x = (N : Int) ∧ 1 ≤ N ∧ N ≤ 10 := by
  have hx : 1 ≤ x ∧ x ≤ 10 := by
    unfold M.isGr M.inB at h
    simp only [Bool.and_eq_true, decide_eq_true_eq] at h
    exact h.1
  exact ⟨x.toNat, by omega, by omega, by omega⟩
set_option maxRecDepth 100000 in
set_option maxHeartbeats 1000000 in
theorem tokenless (N : Nat) (a : Option Addr) (n cap : Nat) (l : List M.Pc) (w : World) (h : Pls w a n l) (hg : M.isGr (N : Int) l = true) :
    Calls Try.prog 67 #[.agg #[.int .i64 N, .slice a n cap]] w (MPost N (M.wtM M.fOne N l) w) := by
  have hb0 := b_alloc w (.cells #[.int .i64 N, .slice a n cap] 26)
  have HC := Lib.hid (weightedOne N a n cap l _ (h.below hb0) hg)
  have hGb := gBox_new w N a n cap 26
  obtain ⟨wb, hwb⟩ : ∃ z, z = w.alloc (.cells #[.int .i64 N, .slice a n cap] 26) := ⟨_, rfl⟩
  rw [← hwb] at hb0 hGb HC
  obtain ⟨g0, g1⟩ := hGb
  have HB0 := Lib.hid hb0
  clear h hg hb0
  go_enter Try.func67, Try.ntmps67
  go_wp2_with fail
  rw [← hwb]
  clear hwb
  refine HC.out.mono ?_
  rintro e w1 ⟨b, c, rfl, ho, hb⟩
  have HO := Lib.hid (ho.mono HB0.out.size)
  have HB := Lib.hid (HB0.out.trans (hb.mono HB0.out.size))
  clear ho hb g0 g1
  go_wp2
  go_ret
  exact ⟨_, _, rfl, HO.out, HB.out⟩
set_option maxRecDepth 100000 in
set_option maxHeartbeats 2000000 in
theorem deadCycle (x : Int) (a : Option Addr) (n cap : Nat) (l : List M.Pc) (w : World) (h : Pls w a n l) :
    Calls Try.prog 19 #[.agg #[.int .i64 x, .slice a n cap]] w (VRes (M.deadRes x l) w) := by
  have HI := Lib.hid h
  have hb0 := b_alloc w (.cells #[.int .i64 x, .slice a n cap] 26)
  have hG := gBox_new w x a n cap 26
  obtain ⟨wb, hwb⟩ : ∃ z, z = w.alloc (.cells #[.int .i64 x, .slice a n cap] 26) := ⟨_, rfl⟩
  rw [← hwb] at hb0 hG
  obtain ⟨r, hr⟩ : ∃ r, r = M.isGr x l := ⟨_, rfl⟩
  have HS : Hid (Calls Try.prog 62 #[.agg #[.int .i64 x, .slice a n cap]] wb fun e w' => e = .returned (.bool r) ∧ Below wb.heap.size wb w') := by rw [hr]; exact isEventGraph x a n cap l wb (h.below hb0)
  have HG := Lib.hid hG
  have HB0 := Lib.hid hb0
  have HRr := Lib.hid hr
  clear h hG hb0 hr
  cases r with
  | false =>
    have HR : Hid (M.deadRes x l = ([], 1)) := by show _ = _; unfold M.deadRes; rw [← HRr.out]; rfl
    go_enter Try.func19, Try.ntmps19
    go_wp2_with fail
    rw [← hwb]
    clear hwb
    refine (HS.out).mono ?_
    rintro e w1 ⟨rfl, hb1⟩
    have HB1 := Lib.hid (HB0.out.trans (hb1.mono HB0.out.size))
    obtain ⟨g0, g1⟩ := HG.out.below hb1
    clear hb1
    go_wp2
    go_ret2
    exact VRes.nil HR.out HB1.out
  | true =>
    obtain ⟨N, hN, n1, n2⟩ := gr_nat HRr.out.symm
    replace hN := hN.symm
    subst hN
    have HR : Hid (M.deadRes (N : Int) l = M.posRes (M.wtM M.fOne N l)) := by show _ = _; unfold M.deadRes; rw [← HRr.out, M.pos_one n1 n2]; rfl
    go_enter Try.func19, Try.ntmps19
    go_wp2_with fail
    rw [← hwb]
    clear hwb
    refine (HS.out).mono ?_
    rintro e w1 ⟨rfl, hb1⟩
    have HB1 := Lib.hid (HB0.out.trans (hb1.mono HB0.out.size))
    obtain ⟨g0, g1⟩ := HG.out.below hb1
    clear hb1
    go_wp2_with fail
    refine (tokenless N a n cap l w1 (HI.out.below HB1.out) HRr.out.symm).mono ?_
    rintro e w2 ⟨b2, c2, rfl, ho, hb2⟩
    have HM2 := Lib.hid ho.mat
    have HB2 := Lib.hid (HB1.out.trans (hb2.mono HB1.out.size))
    clear g0 g1 ho hb2
    go_wp2_with fail
    refine (positiveCycle _ _ _ _ _ HM2.out).mono ?_
    rintro e w3 ⟨b3, n3, c3, rfl, ho, hb3⟩
    rw [← HR.out] at ho ⊢
    have HO3 := Lib.hid (ho.mono HB2.out.size)
    have HB3 := Lib.hid (HB2.out.trans (hb3.mono HB2.out.size))
    clear ho hb3
    go_wp2
    go_ret2
    exact ⟨_, _, _, rfl, HO3.out, HB3.out⟩
set_option maxRecDepth 100000 in
set_option maxHeartbeats 2000000 in
theorem isStrong (x : Int) (a : Option Addr) (n cap : Nat) (l : List M.Pc) (w : World) (h : Pls w a n l) :
    Calls Try.prog 26 #[.agg #[.int .i64 x, .slice a n cap]] w (BPostC (M.strRes x l) w) := by
  have HI := Lib.hid h
  have hb0 := b_alloc w (.cells #[.int .i64 x, .slice a n cap] 26)
  have hG := gBox_new w x a n cap 26
  obtain ⟨wb, hwb⟩ : ∃ z, z = w.alloc (.cells #[.int .i64 x, .slice a n cap] 26) := ⟨_, rfl⟩
  rw [← hwb] at hb0 hG
  obtain ⟨r, hr⟩ : ∃ r, r = M.isGr x l := ⟨_, rfl⟩
  have HS : Hid (Calls Try.prog 62 #[.agg #[.int .i64 x, .slice a n cap]] wb fun e w' => e = .returned (.bool r) ∧ Below wb.heap.size wb w') := by rw [hr]; exact isEventGraph x a n cap l wb (h.below hb0)
  have HG := Lib.hid hG
  have HB0 := Lib.hid hb0
  have HRr := Lib.hid hr
  clear h hG hb0 hr
  cases r with
  | false =>
    have HR : Hid (M.strRes x l = (false, 1)) := by show _ = _; unfold M.strRes; rw [← HRr.out]; rfl
    go_enter Try.func26, Try.ntmps26
    go_wp2_with fail
    rw [← hwb]
    clear hwb
    refine (HS.out).mono ?_
    rintro e w1 ⟨rfl, hb1⟩
    have HB1 := Lib.hid (HB0.out.trans (hb1.mono HB0.out.size))
    obtain ⟨g0, g1⟩ := HG.out.below hb1
    clear hb1
    go_wp2
    go_ret2
    exact BPostC.mk' HR.out HB1.out
  | true =>
    obtain ⟨N, hN, n1, n2⟩ := gr_nat HRr.out.symm
    replace hN := hN.symm
    subst hN
    have HR : Hid (M.strRes (N : Int) l = M.irrRes (M.wtM M.fArc N l)) := by
      show _ = _
      obtain ⟨h1, h2⟩ := M.str_one (l := l) n1 n2
      unfold M.strRes M.irrRes
      rw [← HRr.out, if_pos h1, show (M.wtM M.fArc N l).length = N from M.mk_length _ _ _, h2]; rfl
    go_enter Try.func26, Try.ntmps26
    go_wp2_with fail
    rw [← hwb]
    clear hwb
    refine (HS.out).mono ?_
    rintro e w1 ⟨rfl, hb1⟩
    have HB1 := Lib.hid (HB0.out.trans (hb1.mono HB0.out.size))
    obtain ⟨g0, g1⟩ := HG.out.below hb1
    clear hb1
    go_wp2_with fail
    refine (weightedArc N a n cap l w1 (HI.out.below HB1.out) HRr.out.symm).mono ?_
    rintro e w2 ⟨b2, c2, rfl, ho, hb2⟩
    have HM2 := Lib.hid ho.mat
    have HB2 := Lib.hid (HB1.out.trans (hb2.mono HB1.out.size))
    clear g0 g1 ho hb2
    go_wp2_with fail
    refine (isIrreducible _ _ _ _ _ HM2.out).mono ?_
    rintro e w3 ⟨rfl, hb3⟩
    rw [← HR.out]
    have HB3 := Lib.hid (HB2.out.trans (hb3.mono HB2.out.size))
    clear hb3
    go_wp2
    go_ret2
    exact ⟨rfl, HB3.out⟩
set_option maxRecDepth 100000 in
set_option maxHeartbeats 2000000 in
theorem tokenDistance (x : Int) (a : Option Addr) (n cap : Nat) (l : List M.Pc) (f t : Int) (w : World) (h : Pls w a n l) :
    Calls Try.prog 39 #[.agg #[.int .i64 x, .slice a n cap], .int .i64 f, .int .i64 t] w (PPost (M.tokRes x l f t) w) := by
  have HI := Lib.hid h
  have hb0 := b_alloc w (.cells #[.int .i64 x, .slice a n cap] 26)
  have hG := gBox_new w x a n cap 26
  obtain ⟨wb, hwb⟩ : ∃ z, z = w.alloc (.cells #[.int .i64 x, .slice a n cap] 26) := ⟨_, rfl⟩
  rw [← hwb] at hb0 hG
  obtain ⟨r, hr⟩ : ∃ r, r = M.isGr x l := ⟨_, rfl⟩
  have HS : Hid (Calls Try.prog 62 #[.agg #[.int .i64 x, .slice a n cap]] wb fun e w' => e = .returned (.bool r) ∧ Below wb.heap.size wb w') := by rw [hr]; exact isEventGraph x a n cap l wb (h.below hb0)
  have HG := Lib.hid hG
  have HB0 := Lib.hid hb0
  have HRr := Lib.hid hr
  clear h hG hb0 hr
  cases r with
  | false =>
    have HR : Hid (M.tokRes x l f t = (0, 1)) := by show _ = _; unfold M.tokRes; rw [← HRr.out]; rfl
    go_enter Try.func39, Try.ntmps39
    go_wp2_with fail
    rw [← hwb]
    clear hwb
    refine (HS.out).mono ?_
    rintro e w1 ⟨rfl, hb1⟩
    have HB1 := Lib.hid (HB0.out.trans (hb1.mono HB0.out.size))
    obtain ⟨g0, g1⟩ := HG.out.below hb1
    clear hb1
    go_wp2
    go_ret2
    exact PPost.mk' HR.out HB1.out
  | true =>
    have hw := ev_wrap (x := x) (by have := HRr.out.symm; unfold M.isGr at this; simp only [Bool.and_eq_true] at this; exact this.1)
    obtain ⟨N, hN, n1, n2⟩ := gr_nat HRr.out.symm
    replace hN := hN.symm
    subst hN
    have HH : Hid (∀ y v, M.inB y 0 ((N : Int) - 1) = v → ∀ w, Calls Try.prog 87 #[.agg #[.int .i64 N, .slice a n cap], .int .i64 y] w fun e w' => e = .returned (.bool v) ∧ Below w.heap.size w w') := fun y v hv w => by rw [← hv, ← hw]; exact hasEvent N a n cap y w
    clear hw
    cases hf : M.inB f 0 ((N : Int) - 1) with
    | false =>
      have HF := Lib.hid hf
      have HR : Hid (M.tokRes N l f t = (0, 2)) := by show _ = _; unfold M.tokRes; rw [← HRr.out, HF.out]; rfl
      clear hf
      go_enter Try.func39, Try.ntmps39
      go_wp2_with fail
      rw [← hwb]
      clear hwb
      refine (HS.out).mono ?_
      rintro e w1 ⟨rfl, hb1⟩
      have HB1 := Lib.hid (HB0.out.trans (hb1.mono HB0.out.size))
      have HG1 := Lib.hid (HG.out.below hb1)
      obtain ⟨g0, g1⟩ := HG1.out
      clear hb1
      go_wp2_with fail
      refine (HH.out f false HF.out w1).mono ?_
      rintro e w2 ⟨rfl, hb2⟩
      have HB2 := Lib.hid (HB1.out.trans (hb2.mono HB1.out.size))
      clear hb2
      go_wp2
      go_ret2
      exact PPost.mk' HR.out HB2.out
    | true =>
      have HF := Lib.hid hf
      clear hf
      cases ht : M.inB t 0 ((N : Int) - 1) with
      | false =>
        have HT := Lib.hid ht
        have HR : Hid (M.tokRes N l f t = (0, 2)) := by show _ = _; unfold M.tokRes; rw [← HRr.out, HF.out, HT.out]; rfl
        clear ht
        go_enter Try.func39, Try.ntmps39
        go_wp2_with fail
        rw [← hwb]
        clear hwb
        refine (HS.out).mono ?_
        rintro e w1 ⟨rfl, hb1⟩
        have HB1 := Lib.hid (HB0.out.trans (hb1.mono HB0.out.size))
        have HG1 := Lib.hid (HG.out.below hb1)
        obtain ⟨g0, g1⟩ := HG1.out
        clear hb1
        go_wp2_with fail
        refine (HH.out f true HF.out w1).mono ?_
        rintro e w2 ⟨rfl, hb2⟩
        have HB2 := Lib.hid (HB1.out.trans (hb2.mono HB1.out.size))
        have HG2 := Lib.hid (HG1.out.below hb2)
        clear hb2 g0 g1
        obtain ⟨g0, g1⟩ := HG2.out
        go_wp2_with fail
        refine (HH.out t false HT.out w2).mono ?_
        rintro e w3 ⟨rfl, hb3⟩
        have HB3 := Lib.hid (HB2.out.trans (hb3.mono HB2.out.size))
        clear hb3
        go_wp2
        go_ret2
        exact PPost.mk' HR.out HB3.out
      | true =>
        have HT := Lib.hid ht
        clear ht
        obtain ⟨fj, ti, hfj, hti, hjN, hiN⟩ : ∃ fj ti : Nat, f = (fj : Int) ∧ t = (ti : Int) ∧ fj < N ∧ ti < N := by
          have h1 := HF.out
          have h2 := HT.out
          unfold M.inB at h1 h2
          simp only [Bool.and_eq_true, decide_eq_true_eq] at h1 h2
          exact ⟨f.toNat, t.toNat, by omega, by omega, by omega, by omega⟩
        subst hfj hti
        have HR : Hid (M.tokRes N l (fj : Int) (ti : Int) = M.tdN (M.tdF l N ti fj)) := by show _ = _; unfold M.tokRes; rw [← HRr.out, HF.out, HT.out]; rfl
        have hTk := M.gr_tok HRr.out.symm
        have HNp : Hid (M.noPos (M.ent (M.wtM M.fTok N l)) N = true) := by show _ = _; rw [M.wt_noPos]; exact M.tok_noPos n2 hTk
        have HSt : Hid (M.starL (M.wtM M.fTok N l) N = (M.starM (M.wtM M.fTok N l) N, true)) := by show _ = _; unfold M.starL; rw [HNp.out]; rfl
        have HSq : Hid (M.sqB (M.wtM M.fTok N l) = true) := M.wt_isMat n1 n2 (M.tok_val hTk)
        have hsm := M.td_sm n2 hTk hiN hjN
        have hji : (fj : Int) < (N : Int) := by omega
        have hii : (ti : Int) < (N : Int) := by omega
        have HEn : Hid (((M.starM (M.wtM M.fTok N l) N).getD ti []).getD fj 0 = M.tdF l N ti fj) := M.wt_star M.fTok hiN hjN
        obtain ⟨d, hd⟩ : ∃ d, d = M.tdF l N ti fj := ⟨_, rfl⟩
        rw [← hd] at hsm HEn HR
        have hneg : wrap64 (-d) = -d := IntWalk.wrap64_in _ (by unfold M.Sm at hsm; omega)
        have HRl : Hid (((M.starM (M.wtM M.fTok N l) N).getD ti []).length = N) := M.mk_rowlen _ _ _ _ hiN
        clear hTk hd
        go_enter Try.func39, Try.ntmps39
        go_wp2_with fail
        rw [← hwb]
        clear hwb
        refine (HS.out).mono ?_
        rintro e w1 ⟨rfl, hb1⟩
        have HB1 := Lib.hid (HB0.out.trans (hb1.mono HB0.out.size))
        have HG1 := Lib.hid (HG.out.below hb1)
        obtain ⟨g0, g1⟩ := HG1.out
        clear hb1
        go_wp2_with fail
        refine (HH.out (fj : Int) true HF.out w1).mono ?_
        rintro e w2 ⟨rfl, hb2⟩
        have HB2 := Lib.hid (HB1.out.trans (hb2.mono HB1.out.size))
        have HG2 := Lib.hid (HG1.out.below hb2)
        clear hb2 g0 g1
        obtain ⟨g0, g1⟩ := HG2.out
        go_wp2_with fail
        refine (HH.out (ti : Int) true HT.out w2).mono ?_
        rintro e w3 ⟨rfl, hb3⟩
        have HB3 := Lib.hid (HB2.out.trans (hb3.mono HB2.out.size))
        have HG3 := Lib.hid (HG2.out.below hb3)
        clear hb3 g0 g1
        obtain ⟨g0, g1⟩ := HG3.out
        go_wp2_with fail
        refine (weightedTok N a n cap l w3 (HI.out.below HB3.out) HRr.out.symm).mono ?_
        rintro e w4 ⟨b4, c4, rfl, ho, hb4⟩
        have HQ4 := Lib.hid (sq_of ho.mat HSq.out)
        have HB4 := Lib.hid (HB3.out.trans (hb4.mono HB3.out.size))
        clear g0 g1 ho hb4
        go_wp2_with fail
        refine (starOf _ _ _ _ _ HQ4.out).mono ?_
        rintro e w5 ⟨b5, n5, c5, rfl, ho, hb5⟩
        rw [HSt.out] at ho ⊢
        have hn5 : n5 = N := by rw [ho.len]; exact M.mk_length _ _ _
        subst hn5
        have HB5 := Lib.hid (HB4.out.trans (hb5.mono HB4.out.size))
        obtain ⟨o, q, L, rc, y, rfl, ho1, hq1, hL, hy, m1, m2, m3, m4⟩ := ho.at ti fj hiN (by rw [HRl.out]; exact hjN)
        rw [HRl.out] at hL
        rw [HEn.out] at hy
        replace hL := hL.symm
        subst hL hy
        clear ho hb5 m4
        by_cases hbot : y = -1000000000000000
        · have hbe : (y == -1000000000000000) = true := by simpa using hbot
          have HR2 : Hid (M.tdN y = (0, 4)) := if_pos hbot
          clear hbot
          go_wp2
          go_ret2
          exact PPost.mk' (HR.out.trans HR2.out) HB5.out
        · have hbe : (y == -1000000000000000) = false := by simpa using hbot
          have HR2 : Hid (M.tdN y = (wrap64 (-y), 0)) := by show _ = _; rw [hneg]; exact if_neg hbot
          go_wp2
          go_ret2
          exact PPost.mk' (HR.out.trans HR2.out) HB5.out
set_option maxRecDepth 100000 in
set_option maxHeartbeats 2000000 in
theorem tokenBound (x : Int) (a : Option Addr) (n cap : Nat) (l : List M.Pc) (i : Int) (w : World) (h : Pls w a n l) (hn : n ≤ 1048576) :
    Calls Try.prog 41 #[.agg #[.int .i64 x, .slice a n cap], .int .i64 i] w (PPost (M.bndRes x l i) w) := by
  have HI := Lib.hid h
  have HL : Hid (l.length = n) := h.1
  have hb0 := b_alloc w (.cells #[.int .i64 x, .slice a n cap] 26)
  have hG := gBox_new w x a n cap 26
  obtain ⟨wb, hwb⟩ : ∃ z, z = w.alloc (.cells #[.int .i64 x, .slice a n cap] 26) := ⟨_, rfl⟩
  rw [← hwb] at hb0 hG
  obtain ⟨r, hr⟩ : ∃ r, r = M.isGr x l := ⟨_, rfl⟩
  have HS : Hid (Calls Try.prog 62 #[.agg #[.int .i64 x, .slice a n cap]] wb fun e w' => e = .returned (.bool r) ∧ Below wb.heap.size wb w') := by rw [hr]; exact isEventGraph x a n cap l wb (h.below hb0)
  have HG := Lib.hid hG
  have HB0 := Lib.hid hb0
  have HRr := Lib.hid hr
  clear h hG hb0 hr
  cases r with
  | false =>
    have HR : Hid (M.bndRes x l i = (0, 1)) := by show _ = _; unfold M.bndRes; rw [← HRr.out]; rfl
    go_enter Try.func41, Try.ntmps41
    go_wp2_with fail
    rw [← hwb]
    clear hwb
    refine (HS.out).mono ?_
    rintro e w1 ⟨rfl, hb1⟩
    have HB1 := Lib.hid (HB0.out.trans (hb1.mono HB0.out.size))
    obtain ⟨g0, g1⟩ := HG.out.below hb1
    clear hb1
    go_wp2
    go_ret2
    exact PPost.mk' HR.out HB1.out
  | true =>
    obtain ⟨N, hN, n1, n2⟩ := gr_nat HRr.out.symm
    replace hN := hN.symm
    subst hN
    obtain ⟨v, hv⟩ : ∃ v, v = M.inB i 0 ((n : Int) - 1) := ⟨_, rfl⟩
    have HX : Hid (∀ w, Calls Try.prog 90 #[.agg #[.int .i64 N, .slice a n cap], .int .i64 i] w fun e w' => e = .returned (.bool v) ∧ Below w.heap.size w w') := fun w => by rw [hv]; exact hasIndex N a n cap i w hn
    have HV := Lib.hid hv
    clear hv
    cases v with
    | false =>
      have HR : Hid (M.bndRes N l i = (0, 2)) := by show _ = _; unfold M.bndRes; rw [← HRr.out, HL.out, ← HV.out]; rfl
      go_enter Try.func41, Try.ntmps41
      go_wp2_with fail
      rw [← hwb]
      clear hwb
      refine (HS.out).mono ?_
      rintro e w1 ⟨rfl, hb1⟩
      have HB1 := Lib.hid (HB0.out.trans (hb1.mono HB0.out.size))
      have HG1 := Lib.hid (HG.out.below hb1)
      obtain ⟨g0, g1⟩ := HG1.out
      clear hb1
      go_wp2_with fail
      refine (HX.out w1).mono ?_
      rintro e w2 ⟨rfl, hb2⟩
      have HB2 := Lib.hid (HB1.out.trans (hb2.mono HB1.out.size))
      clear hb2
      go_wp2
      go_ret2
      exact PPost.mk' HR.out HB2.out
    | true =>
      obtain ⟨k, hk, hkn⟩ : ∃ k : Nat, i = (k : Int) ∧ k < n := by
        have h1 := HV.out.symm
        unfold M.inB at h1
        simp only [Bool.and_eq_true, decide_eq_true_eq] at h1
        exact ⟨i.toNat, by omega, by omega⟩
      subst hk
      have hki : (k : Int) < (n : Int) := by omega
      obtain ⟨pb, off, p0, p1, p2, p3, rfl, hpb, hp, c0, c1, c2, c3⟩ := HI.out.at k hkn
      obtain ⟨ii, jj, hi, hj, e1, e0, -, -, t3, t3'⟩ := gr_at HRr.out.symm (by rw [HL.out]; exact hkn) hp
      have hTk := M.gr_tok HRr.out.symm
      have hsm := M.td_sm n2 hTk hj hi
      obtain ⟨d, hd⟩ : ∃ d, d = M.tdF l N jj ii := ⟨_, rfl⟩
      rw [← hd] at hsm
      have HR : Hid (M.bndRes N l (k : Int) = M.tdP d p3) := by
        show _ = _
        unfold M.bndRes
        rw [← HRr.out, HL.out, ← HV.out, show ((k : Int)).toNat = k from rfl, hp, e1, e0, hd]; rfl
      have HTd : Hid (M.tokRes N l p1 p0 = M.tdN d) := by
        show _ = _
        unfold M.tokRes
        have q1 : M.inB p1 0 ((N : Int) - 1) = true := by unfold M.inB; simp; omega
        have q0 : M.inB p0 0 ((N : Int) - 1) = true := by unfold M.inB; simp; omega
        rw [← HRr.out, q1, q0, e1, e0, hd]; rfl
      have HC : Hid (∀ w, Pls w (some ⟨pb, off, none⟩) n l → Calls Try.prog 39 #[.agg #[.int .i64 N, .slice (some ⟨pb, off, none⟩) n cap], .int .i64 p1, .int .i64 p0] w (PPost (M.tdN d) w)) := fun w h => by rw [← HTd.out]; exact tokenDistance N _ n cap l p1 p0 w h
      clear hp hd hTk e1 e0 hi hj
      go_enter Try.func41, Try.ntmps41
      go_wp2_with fail
      rw [← hwb]
      clear hwb
      refine (HS.out).mono ?_
      rintro e w1 ⟨rfl, hb1⟩
      have HB1 := Lib.hid (HB0.out.trans (hb1.mono HB0.out.size))
      have HG1 := Lib.hid (HG.out.below hb1)
      obtain ⟨g0, g1⟩ := HG1.out
      clear hb1
      go_wp2_with fail
      refine (HX.out w1).mono ?_
      rintro e w2 ⟨rfl, hb2⟩
      have HB2 := Lib.hid (HB1.out.trans (hb2.mono HB1.out.size))
      have HG2 := Lib.hid (HG1.out.below hb2)
      clear hb2 g0 g1
      obtain ⟨g0, g1⟩ := HG2.out
      have d0 := (HB2.out.cell (p := ⟨pb, _, none⟩) hpb).trans c0
      have d1 := (HB2.out.cell (p := ⟨pb, _, none⟩) hpb).trans c1
      have d2 := (HB2.out.cell (p := ⟨pb, _, none⟩) hpb).trans c2
      have d3 := (HB2.out.cell (p := ⟨pb, _, none⟩) hpb).trans c3
      clear c0 c1 c2 c3
      have hbp0 : Below w2.heap.size w2 (w2.alloc (.cells #[.int .i64 p0, .int .i64 p1, .int .i64 p2, .int .i64 p3] 35)) := b_alloc w2 _
      obtain ⟨f0, f1⟩ := HG2.out.below hbp0
      obtain ⟨wp, hwp⟩ : ∃ z, z = w2.alloc (.cells #[.int .i64 p0, .int .i64 p1, .int .i64 p2, .int .i64 p3] 35) := ⟨_, rfl⟩
      have hbp : Below w2.heap.size w2 wp := by rw [hwp]; exact b_alloc w2 _
      have x3 : wp.cell? ⟨w2.heap.size, 3, none⟩ = some (.int .i64 p3) := by rw [hwp]; simp [go_sem]
      have HX3 := Lib.hid x3
      have HB3 := Lib.hid (HB2.out.trans (hbp.mono HB2.out.size))
      have HWp := Lib.hid hwp.symm
      clear hwp hbp x3 hbp0
      go_wp2_with fail
      rw [HWp.out]
      refine (HC.out wp (HI.out.below HB3.out)).mono ?_
      rintro e w3 ⟨rfl, hb3⟩
      have HB4 := Lib.hid (HB3.out.trans (hb3.mono HB3.out.size))
      have y3 : w3.cell? ⟨w2.heap.size, 3, none⟩ = some (.int .i64 p3) := (hb3.cell (cell_lt HX3.out)).trans HX3.out
      clear hb3 f0 f1 g0 g1 d0 d1 d2 d3
      by_cases hbot : d = -1000000000000000
      · have HR2 : Hid (M.tdP d p3 = (0, 4)) := if_pos hbot
        have HR3 : Hid (M.tdN d = (0, 4)) := if_pos hbot
        rw [HR3.out]
        clear hbot
        go_wp2
        go_ret2
        exact PPost.mk' (HR.out.trans HR2.out) HB4.out
      · have HR3 : Hid (M.tdN d = (-d, 0)) := if_neg hbot
        have hsum : wrap64 (p3 + -d) = p3 + -d := IntWalk.wrap64_in _ (by unfold M.Sm at hsm; omega)
        have HR2 : Hid (M.tdP d p3 = (wrap64 (p3 + -d), 0)) := by show _ = _; rw [hsum]; exact if_neg hbot
        rw [HR3.out]
        clear hbot
        go_wp2
        go_ret2
        exact PPost.mk' (HR.out.trans HR2.out) HB4.out
end V
end Go.Proofs.Ytobdgboejbbfiaa
