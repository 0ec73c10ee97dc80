/- Texts laid together: Grn, Gro, Grp, OpenP. -/
import Derived.Test.YtobdgboejbbfiaaQa13
import Derived.Deep.RegionWith
import Derived.Deep.RegionHeld3
import Derived.Deep.DeepCutAuto
import Derived.Test.YtobdgboejbbfiaaQa11
import Derived.Deep.Slices
import Derived.Deep.Fields
import Derived.Lib.SmallJoins
import Derived.ChangeArms
set_option linter.unusedSimpArgs false
set_option linter.unusedVariables false
set_option linter.unusedSectionVars false
namespace Go.Proofs.Ytobdgboejbbfiaa
namespace M
def addpRes (e : Int) (l : List Pc) (p : Pc) : Int × List Pc × Int := if isGr e l then (if plW (e - 1) p then (if l.length = 30 then (0, [], 3) else (e, l ++ [p], 0)) else (0, [], 2)) else (0, [], 1)
theorem addpRes_len (e : Int) (l : List Pc) (p : Pc) : (addpRes e l p).2.1.length ≤ 30 := by
  unfold addpRes
  cases h : isGr e l with
  | false => simp
  | true =>
    have := (isGr_in h).2
    cases h2 : plW (e - 1) p with
    | false => simp
    | true =>
      by_cases h3 : l.length = 30
      · simp [h3]
      · simp [h3]; omega
theorem add_cases (e : Int) (l : List Pc) (p : Pc) :
    (isGr e l = false ∧ addpRes e l p = (0, [], 1)) ∨ (isGr e l = true ∧ inB e 1 10 = true ∧ plW (e - 1) p = false ∧ addpRes e l p = (0, [], 2)) ∨
    (isGr e l = true ∧ inB e 1 10 = true ∧ plW (e - 1) p = true ∧ l.length = 30 ∧ addpRes e l p = (0, [], 3)) ∨ (isGr e l = true ∧ inB e 1 10 = true ∧ plW (e - 1) p = true ∧ l.length < 30 ∧ addpRes e l p = (e, l ++ [p], 0)) := by
  unfold addpRes
  cases h : isGr e l with
  | false => exact .inl ⟨rfl, rfl⟩
  | true =>
    refine .inr ?_
    have := (isGr_in h).2
    cases h2 : plW (e - 1) p with
    | false => exact .inl ⟨rfl, (isGr_in h).1, rfl, rfl⟩
    | true =>
      refine .inr ?_
      by_cases h3 : l.length = 30
      · exact .inl ⟨rfl, (isGr_in h).1, rfl, h3, by simp [h3]⟩
      · exact .inr ⟨rfl, (isGr_in h).1, rfl, by omega, by simp [h3]⟩
end M
namespace V
set_option maxRecDepth 100000
open Go.RowKit
theorem step_append_run (w : World) {ops : Array Oper} {o : Oper} {a : Act} {K : Act → World → Prop} {Q : Exit → Act → World → Prop} {E : Prop} (hgd : o.guard = none) (s x : Operand) (t tn : TypeId)
    (ho : o.op = .call { callee := .builtin .append, args := #[s, x], argTypes := #[t, tn] }) (vs vx : Value) (hs : a.eval s = vs) (hx : a.eval x = vx)
    (v' : Value) (w' : World) (hr : (Builtin.append_ #[t, tn] o.type #[vs, vx]).run Try.prog w = .ok v' w') (h : K (a.put o.dst v') w') :
    if Region.wanted o (yielded ops a.tmps) = true then Oper.wp Try.prog o a w K Q else E := by
  have hw : Region.wanted o (yielded ops a.tmps) = true := by simp [Region.wanted, hgd]
  rw [if_pos hw]
  exact Lib.wp_append_run w s x t tn ho vs vx hs hx v' w' hr h
/-- The box of a place. -/
def PBox (w : World) (g : Nat) (p0 p1 p2 p3 : Int) : Prop := w.cell? ⟨g, 0, none⟩ = some (.int .i64 p0) ∧ w.cell? ⟨g, 1, none⟩ = some (.int .i64 p1) ∧ w.cell? ⟨g, 2, none⟩ = some (.int .i64 p2) ∧ w.cell? ⟨g, 3, none⟩ = some (.int .i64 p3)
theorem PBox.below {w w' : World} {g : Nat} {p0 p1 p2 p3 : Int} (h : PBox w g p0 p1 p2 p3) (hb : Below w.heap.size w w') : PBox w' g p0 p1 p2 p3 :=
  ⟨(hb.cell (cell_lt h.1)).trans h.1, (hb.cell (cell_lt h.2.1)).trans h.2.1, (hb.cell (cell_lt h.2.2.1)).trans h.2.2.1, (hb.cell (cell_lt h.2.2.2)).trans h.2.2.2⟩
set_option maxRecDepth 100000 in
set_option maxHeartbeats 2000000 in
theorem sOwn0 (x : Int) (a : Option Addr) (cap : Nat) (w : World) :
    Calls Try.prog 103 #[.agg #[.int .i64 x, .slice a 0 cap]] w fun e w' => ∃ g c, e = .returned (.agg #[.int .i64 x, .slice (some ⟨g, 0, none⟩) 0 c]) ∧ OwnPl w' w.heap.size (.slice (some ⟨g, 0, none⟩) 0 c) [] ∧ Below w.heap.size w w' := by
  have hr := run_append_zero ((((w.alloc (.cells #[.int .i64 x, .slice a 0 cap] 26)).alloc (.cells #[.int .i64 0, .slice none 0 0] 26)).alloc (.cells #[] 35)).drew) (some ⟨w.heap.size + 1 + 1, 0, none⟩) 0 0 a cap (Nat.le_refl _) 24
  have HR := Lib.hid hr
  clear hr
  go_enter Try.func103, Try.ntmps103
  go_wp2
  go_region_law (refine step_append_run _ rfl (.tmp 5) (.tmp 7) 24 24 rfl _ _ rfl rfl _ _ HR.out ?_)
  all_goals
    have ho0 := ownPl_lit0 ((w.alloc (.cells #[.int .i64 x, .slice a 0 cap] 26)).alloc (.cells #[.int .i64 x, .slice (some ⟨w.heap.size + 1 + 1, 0, none⟩) 0 0] 26)) w.heap.size (by simp; omega)
    simp only [World.size_alloc] at ho0
    have hb3 := (b_al3g w (.cells #[.int .i64 x, .slice a 0 cap] 26) (.cells #[.int .i64 x, .slice (some ⟨w.heap.size + 1 + 1, 0, none⟩) 0 0] 26) (.cells #[] 35)).drew
    go_wp2
    exact bodyPost_ret (v := .agg #[.int .i64 x, .slice (some ⟨w.heap.size + 1 + 1, 0, none⟩) 0 0]) (by simp [results, Try.results103, go_sem]) rfl ⟨_, _, rfl, ho0, hb3⟩
theorem sOwnAny (x : Int) (a : Option Addr) (n cap : Nat) (l : List M.Pc) (w : World) (h : Pls w a n l) (hn : n ≤ 1048576) :
    Calls Try.prog 103 #[.agg #[.int .i64 x, .slice a n cap]] w fun e w' => ∃ g c, e = .returned (.agg #[.int .i64 x, .slice (some ⟨g, 0, none⟩) n c]) ∧ OwnPl w' w.heap.size (.slice (some ⟨g, 0, none⟩) n c) l ∧ Below w.heap.size w w' := by
  rcases Nat.eq_zero_or_pos n with q | q
  · subst q
    obtain rfl : l = [] := List.eq_nil_of_length_eq_zero h.1
    exact sOwn0 x a cap w
  · obtain ⟨b, off, -, -, -, -, rfl, -⟩ := h.at 0 q
    exact sOwnG x b off n cap l w h hn
set_option maxRecDepth 100000 in
set_option maxHeartbeats 2000000 in
theorem sAddPlace (x : Int) (a : Option Addr) (n cap : Nat) (l : List M.Pc) (p0 p1 p2 p3 : Int) (w : World) (h : Pls w a n l) :
    Calls Try.prog 54 #[.agg #[.int .i64 x, .slice a n cap], .agg #[.int .i64 p0, .int .i64 p1, .int .i64 p2, .int .i64 p3]] w (GRes (M.addpRes x l (p0, p1, p2, p3)) w) := by
  have HI := Lib.hid h
  have hl : l.length = n := h.1
  have hb0 := b_al3g w (.cells #[.int .i64 x, .slice a n cap] 26) (.cells #[.int .i64 p0, .int .i64 p1, .int .i64 p2, .int .i64 p3] 35) (.cells #[.int .i64 0, .slice none 0 0] 26)
  obtain ⟨wb, hwb⟩ : ∃ z, z = (((w.alloc (.cells #[.int .i64 x, .slice a n cap] 26)).alloc (.cells #[.int .i64 p0, .int .i64 p1, .int .i64 p2, .int .i64 p3] 35)).alloc (.cells #[.int .i64 0, .slice none 0 0] 26)) := ⟨_, rfl⟩
  have hG : GBox wb w.heap.size x a n cap := by rw [hwb]; exact ⟨by simp [go_sem], by simp [go_sem]⟩
  have hP : PBox wb (w.heap.size + 1) p0 p1 p2 p3 := by rw [hwb]; exact ⟨by simp [go_sem], by simp [go_sem], by simp [go_sem], by simp [go_sem]⟩
  have hR : ResG wb (w.heap.size + 1 + 1) := by rw [hwb]; exact ⟨by simp [go_sem], by simp [go_sem], by simp [go_sem], by simp [go_sem]⟩
  rw [← hwb] at hb0
  have HS := Lib.hid (sIsEventGraph x a n cap l wb (h.below hb0))
  have HG := Lib.hid hG
  have HPb := Lib.hid hP
  have HRs := Lib.hid hR
  have HB0 := Lib.hid hb0
  obtain ⟨r, hr⟩ : ∃ r, r = M.addpRes x l (p0, p1, p2, p3) := ⟨_, rfl⟩
  have HC := Lib.hid (M.add_cases x l (p0, p1, p2, p3))
  obtain ⟨b0, hb0'⟩ : ∃ c, c = M.isGr x l := ⟨_, rfl⟩
  rw [← hr, ← hb0', hl] at HC
  rw [← hr]
  rw [← hb0'] at HS
  have HPl : Hid (∀ W, M.inB x 1 10 = true → Calls Try.prog 105 #[.agg #[.int .i64 p0, .int .i64 p1, .int .i64 p2, .int .i64 p3], .int .i64 x] W fun e w' => e = .returned (.bool (M.plW (x - 1) (p0, p1, p2, p3))) ∧ Below W.heap.size W w') := fun W q => by have := sPlace p0 p1 p2 p3 x W; rwa [ev_wrap q] at this
  obtain ⟨b1, hb1'⟩ : ∃ c, c = M.plW (x - 1) (p0, p1, p2, p3) := ⟨_, rfl⟩
  rw [← hb1'] at HC HPl
  have hmx := h.2.1
  unfold maxLen at hmx
  clear h hG hP hb0 hR hr hb0' hb1'
  go_enter Try.func54, Try.ntmps54
  go_wp2_with fail
  rw [← hwb]
  clear hwb
  refine (HS.out).mono ?_
  rintro e w1 ⟨rfl, hb1⟩
  have HB1 := Lib.hid (HB0.out.trans (hb1.mono HB0.out.size))
  have HI1 := Lib.hid (HI.out.below HB1.out)
  have HG1 := Lib.hid (HG.out.below hb1)
  have HP1 := Lib.hid (HPb.out.below hb1)
  have HR1 := Lib.hid (HRs.out.below hb1)
  obtain ⟨g0, g1⟩ := HG1.out
  obtain ⟨q0, q1, q2, q3⟩ := HP1.out
  obtain ⟨r0, r1, f0, f1⟩ := HR1.out
  have z1 : w.heap.size + 1 + 1 < w1.heap.size := cell_lt r0
  clear hb1 HS
  rcases HC.out with ⟨rfl, hr⟩ | ⟨rfl, hx, rfl, hr⟩ | ⟨rfl, hx, rfl, h30, hr⟩ | ⟨rfl, hx, rfl, h30, hr⟩
  · have HR := Lib.hid hr
    clear hr HC
    go_wp2
    exact bodyPost_ret (v := .tuple #[.agg #[.int .i64 0, .slice none 0 0], .int .i64 1]) (by simp [results, Try.results54, go_sem, z1, r0, r1]) rfl (GRes.nil HR.out ((HB1.out.setCell (by show _ ≤ w.heap.size + 1 + 1; omega) _).setCell (by show _ ≤ w.heap.size + 1 + 1; omega) _))
  all_goals
    have HR := Lib.hid hr
    clear hr HC
    go_wp2_with fail
    refine (HPl.out _ hx).mono ?_
    rintro e w2 ⟨rfl, hb2⟩
    have HB2 := Lib.hid (HB1.out.trans (hb2.mono HB1.out.size))
    have HI2 := Lib.hid (HI1.out.below hb2)
    have HG2 := Lib.hid (HG1.out.below hb2)
    have HP2 := Lib.hid (HP1.out.below hb2)
    have HR2 := Lib.hid (HR1.out.below hb2)
    clear g0 g1 q0 q1 q2 q3 r0 r1 f0 f1
    obtain ⟨g0, g1⟩ := HG2.out
    obtain ⟨q0, q1, q2, q3⟩ := HP2.out
    obtain ⟨r0, r1, f0, f1⟩ := HR2.out
    have z2 : w.heap.size + 1 + 1 < w2.heap.size := cell_lt r0
    clear hb2 HPl
  · go_wp2
    exact bodyPost_ret (v := .tuple #[.agg #[.int .i64 0, .slice none 0 0], .int .i64 2]) (by simp [results, Try.results54, go_sem, z2, r0, r1]) rfl (GRes.nil HR.out ((HB2.out.setCell (by show _ ≤ w.heap.size + 1 + 1; omega) _).setCell (by show _ ≤ w.heap.size + 1 + 1; omega) _))
  · subst h30
    go_wp2
    exact bodyPost_ret (v := .tuple #[.agg #[.int .i64 0, .slice none 0 0], .int .i64 3]) (by simp [results, Try.results54, go_sem, z2, r0, r1]) rfl (GRes.nil HR.out ((HB2.out.setCell (by show _ ≤ w.heap.size + 1 + 1; omega) _).setCell (by show _ ≤ w.heap.size + 1 + 1; omega) _))
  · have hne : ((n : Int) == 30) = false := by simp; omega
    have hne2 : ¬ ((n : Int) = 30) := by omega
    go_wp2_with fail
    refine (sOwnAny x a n cap l w2 HI2.out (by omega)).mono ?_
    rintro e w3 ⟨g, c, rfl, ho, hb⟩
    have hb3 := b_alloc w3 (.cells #[.int .i64 x, .slice (some ⟨g, 0, none⟩) n c] 26)
    obtain ⟨u0, u1, u2, u3⟩ := (HP2.out.below hb).below hb3
    have hgl := ho.lt (k := g) rfl
    have HO := Lib.hid (ho.below (b_alloc2 w3 (.cells #[.int .i64 x, .slice (some ⟨g, 0, none⟩) n c] 26) (.cells #[.int .i64 p0, .int .i64 p1, .int .i64 p2, .int .i64 p3] 35)))
    have HPs : Hid (Pls ((w3.alloc (.cells #[.int .i64 x, .slice (some ⟨g, 0, none⟩) n c] 26)).alloc (.cells #[.int .i64 p0, .int .i64 p1, .int .i64 p2, .int .i64 p3] 35)) (some ⟨w3.heap.size + 1, 0, none⟩) 1 [(p0, p1, p2, p3)]) := ⟨rfl, by unfold maxLen; omega, .inr ⟨w3.heap.size + 1, 0, rfl, by simp, fun i hi => by
      obtain rfl : i = 0 := by omega
      exact ⟨by simp [go_sem], by simp [go_sem], by simp [go_sem], by simp [go_sem]⟩⟩⟩
    have HB3 : Hid (Below w2.heap.size w2 ((w3.alloc (.cells #[.int .i64 x, .slice (some ⟨g, 0, none⟩) n c] 26)).alloc (.cells #[.int .i64 p0, .int .i64 p1, .int .i64 p2, .int .i64 p3] 35))) := hb.trans ((b_alloc2 w3 _ _).mono hb.size)
    have z3 := hb.size
    have hzW : ((w3.alloc (.cells #[.int .i64 x, .slice (some ⟨g, 0, none⟩) n c] 26)).alloc (.cells #[.int .i64 p0, .int .i64 p1, .int .i64 p2, .int .i64 p3] 35)).heap.size = w3.heap.size + 1 + 1 := by simp
    have o0 : ((w3.alloc (.cells #[.int .i64 x, .slice (some ⟨g, 0, none⟩) n c] 26)).alloc (.cells #[.int .i64 p0, .int .i64 p1, .int .i64 p2, .int .i64 p3] 35)).cell? ⟨w3.heap.size, 0, none⟩ = some (.int .i64 x) := by simp [go_sem]
    have o1 : ((w3.alloc (.cells #[.int .i64 x, .slice (some ⟨g, 0, none⟩) n c] 26)).alloc (.cells #[.int .i64 p0, .int .i64 p1, .int .i64 p2, .int .i64 p3] 35)).cell? ⟨w3.heap.size, 1, none⟩ = some (.slice (some ⟨g, 0, none⟩) n c) := by simp [go_sem]
    have of1 : ((w3.alloc (.cells #[.int .i64 x, .slice (some ⟨g, 0, none⟩) n c] 26)).alloc (.cells #[.int .i64 p0, .int .i64 p1, .int .i64 p2, .int .i64 p3] 35)).frozen? ⟨w3.heap.size, 1, none⟩ = false := by simp [go_sem]
    have HOx := Lib.hid (And.intro o0 (And.intro o1 of1))
    have HZ := Lib.hid hzW
    clear hb3 ho hb o0 o1 of1 hzW g0 g1 q0 q1 q2 q3 r0 r1 f0 f1
    go_wp2_with (at_builtin; refine appendPl _ rfl (.tmp 28) (.tmp 30) rfl w2.heap.size (.slice (some ⟨g, 0, none⟩) n c) l [(p0, p1, p2, p3)] n 1 (w3.heap.size + 1) 0 1 hl rfl HO.out (by simp) rfl HPs.out (by omega) HB3.out.size ?_)
    rintro v' w4 ⟨g', c', rfl, ho4, hb4, hfr, hat⟩
    have e0 := hfr w3.heap.size (by rw [HZ.out]; omega) (by simp [Value.ownBlock]; omega)
    have o0 : w4.cell? ⟨w3.heap.size, 0, none⟩ = some (.int .i64 x) := (World.cell?_of_block (a := ⟨w3.heap.size, 0, none⟩) e0).trans HOx.out.1
    have o1 : w4.cell? ⟨w3.heap.size, 1, none⟩ = some (.slice (some ⟨g, 0, none⟩) n c) := (World.cell?_of_block (a := ⟨w3.heap.size, 1, none⟩) e0).trans HOx.out.2.1
    have of1 : w4.frozen? ⟨w3.heap.size, 1, none⟩ = false := (World.frozen?_of_block (a := ⟨w3.heap.size, 1, none⟩) e0).trans HOx.out.2.2
    have HB4 := Lib.hid (HB3.out.trans hb4)
    obtain ⟨r0, r1, f0, f1⟩ := HR2.out.below HB4.out
    have hg' : g' ≠ w3.heap.size ∧ w2.heap.size ≤ g' := by
      refine ⟨?_, (ho4.lt rfl).1⟩
      rcases hat with e | e
      · simp [Value.ownBlock] at e; omega
      · rw [HZ.out] at e; omega
    have hRn : w.heap.size + 1 + 1 ≠ w3.heap.size := by omega
    have z4 : w3.heap.size < w4.heap.size := cell_lt o0
    have hrs : ∀ W', Below w3.heap.size w4 W' → ResG W' (w.heap.size + 1 + 1) := fun W' q => ⟨(q.cell (p := ⟨_, 0, none⟩) (by show w.heap.size + 1 + 1 < _; omega)).trans r0, (q.cell (p := ⟨_, 1, none⟩) (by show w.heap.size + 1 + 1 < _; omega)).trans r1, (q.frozen (p := ⟨_, 0, none⟩) (by show w.heap.size + 1 + 1 < _; omega)).trans f0, (q.frozen (p := ⟨_, 1, none⟩) (by show w.heap.size + 1 + 1 < _; omega)).trans f1⟩
    have HO4 := Lib.hid ho4
    have HO6 : Hid (OwnPl (((w4.setCell ⟨w3.heap.size, 1, none⟩ (.slice (some ⟨g', 0, none⟩) (n + 1) c')).setCell ⟨w.heap.size + 1 + 1, 0, none⟩ (.int .i64 x)).setCell ⟨w.heap.size + 1 + 1, 1, none⟩ (.slice (some ⟨g', 0, none⟩) (n + 1) c')) w.heap.size (.slice (some ⟨g', 0, none⟩) (n + 1) c') (l ++ [(p0, p1, p2, p3)])) := by
      refine (ho4.keepB fun q hq => ?_).mono (by omega)
      simp [Value.ownBlock] at hq
      subst hq
      rw [Below.heap_setCell _ _ _ _ (by show g' ≠ w.heap.size + 1 + 1; omega), Below.heap_setCell _ _ _ _ (by show g' ≠ w.heap.size + 1 + 1; omega), Below.heap_setCell _ _ _ _ (by show g' ≠ w3.heap.size; omega)]
    have HB6 := Lib.hid ((((HB2.out.trans (HB4.out.mono HB2.out.size)).setCell (p := ⟨w3.heap.size, 1, none⟩) (by show _ ≤ w3.heap.size; omega) (.slice (some ⟨g', 0, none⟩) (n + 1) c')).setCell (p := ⟨w.heap.size + 1 + 1, 0, none⟩) (by show _ ≤ w.heap.size + 1 + 1; omega) (.int .i64 x)).setCell (p := ⟨w.heap.size + 1 + 1, 1, none⟩) (by show _ ≤ w.heap.size + 1 + 1; omega) (.slice (some ⟨g', 0, none⟩) (n + 1) c'))
    have z5 : w.heap.size + 1 + 1 < w4.heap.size := by omega
    clear hb4 hfr hat e0 ho4 hrs
    go_wp2
    rw [HR.out]
    exact bodyPost_ret (v := .tuple #[.agg #[.int .i64 x, .slice (some ⟨g', 0, none⟩) (n + 1) c'], .int .i64 0]) (by simp [results, Try.results54, go_sem, z5, hRn, r0, r1]) rfl ⟨_, _, _, rfl, HO6.out, HB6.out⟩
end V
end Go.Proofs.Ytobdgboejbbfiaa

namespace Go.Proofs.Ytobdgboejbbfiaa
namespace V
set_option maxRecDepth 100000
open Go.RowKit
set_option maxRecDepth 100000 in
set_option maxHeartbeats 2000000 in
theorem concatPlE (b : Nat) (p1 : Option Addr) (c1 g2 o2 n2 c2 : Nat) (y : List M.Pc) (w : World) (hy : Pls w (some ⟨g2, o2, none⟩) n2 y)
    (hc0 : w.cell? ⟨b, 0, none⟩ = some (.slice p1 0 c1)) (hc1 : w.cell? ⟨b, 1, none⟩ = some (.slice (some ⟨g2, o2, none⟩) n2 c2)) (h0 : 0 < n2) (hn : n2 ≤ 1000) :
    Calls Try.prog 104 #[.slice (some ⟨b, 0, none⟩) 2 2] w fun e w' => ∃ g cc, e = .returned (.slice (some ⟨g, 0, none⟩) n2 cc) ∧ OwnPl w' w.heap.size (.slice (some ⟨g, 0, none⟩) n2 cc) y ∧ Below w.heap.size w w' := by
  have HY := Lib.hid hy
  have HLy : Hid (y.length = n2) := hy.1
  have HC0 : Hid (∀ w', Below w.heap.size w w' → w'.cell? ⟨b, 0, none⟩ = some (.slice p1 0 c1)) := fun w' hb => ckP hc0 hb
  have HC1 : Hid (∀ w', Below w.heap.size w w' → w'.cell? ⟨b, 1, none⟩ = some (.slice (some ⟨g2, o2, none⟩) n2 c2)) := fun w' hb => ckP hc1 hb
  clear hy
  go_enter Try.func104, Try.ntmps104
  go_wp2
  go_loop [3, 11] (fun sv iv => (iv = .int .i64 0 ∧ sv = .int .i64 0) ∨ (iv = .int .i64 1 ∧ sv = .int .i64 0) ∨ (iv = .int .i64 2 ∧ sv = .int .i64 (n2 : Int))) (fun _ iv => 2 - (intOf iv).toNat)
  case atStart => exact .inl ⟨rfl, rfl⟩
  case round =>
    have k2 : ¬ (n2 : Int) < 0 := by omega
    rcases hrel with ⟨rfl, rfl⟩ | ⟨rfl, rfl⟩ | ⟨rfl, rfl⟩
    · go_wp2
      go_round
      case rel => exact .inr (.inl ⟨rfl, by go_num⟩)
      case measure => simp [intOf]
    · go_wp2
      go_round
      case rel => exact .inr (.inr ⟨rfl, by go_num⟩)
      case measure => simp [intOf]
    · go_wp2_with fail
      refine (growPl n2 _ h0 hn).mono ?_
      rintro e w1 ⟨c, rfl, ho, hb⟩
      have HO := Lib.hid ho
      have HB := Lib.hid hb
      clear ho hb hc0 hc1
      go_wp2
      go_loopw [6, 27] (fun v iv wr => Hid (Below w.heap.size w wr) ∧ ((iv = .int .i64 0 ∧ v = .slice (some ⟨w.heap.size, 0, none⟩) 0 c ∧ Hid (OwnPl wr w.heap.size v [])) ∨ (iv = .int .i64 1 ∧ v = .slice (some ⟨w.heap.size, 0, none⟩) 0 c ∧ Hid (OwnPl wr w.heap.size v [])) ∨ (iv = .int .i64 2 ∧ ∃ b4 c4, v = .slice (some ⟨b4, 0, none⟩) n2 c4 ∧ Hid (OwnPl wr w.heap.size v y)))) (fun _ iv _ => 2 - (intOf iv).toNat)
      case atStart => exact ⟨HB, .inl ⟨rfl, rfl, HO⟩⟩
      case round =>
        obtain ⟨HBr, ⟨rfl, rfl, HOr⟩ | ⟨rfl, rfl, HOr⟩ | ⟨rfl, b4, c4, rfl, HOr⟩⟩ := hrel
        · have hd0 := HC0.out _ HBr.out
          go_wp2_with (at_builtin; refine Lib.wpList_append_run _ rfl (.tmp 31) (.tmp 32) 24 24 rfl _ _ rfl rfl _ _ (run_append_zero _ (some ⟨w.heap.size, 0, none⟩) 0 c p1 c1 (Nat.zero_le _) _) ?_)
          clear hd0
          go_wp2
          go_roundw
          case rel => exact ⟨HBr, .inr (.inl ⟨rfl, rfl, HOr⟩)⟩
          case measure => simp [intOf]
        · have hd1 := HC1.out _ HBr.out
          have HYr := Lib.hid (HY.out.below HBr.out)
          go_wp2_with (at_builtin; refine appendPl _ rfl (.tmp 31) (.tmp 32) rfl w.heap.size (.slice (some ⟨w.heap.size, 0, none⟩) 0 c) [] y 0 n2 g2 o2 c2 rfl rfl HOr.out (by simp) rfl HYr.out (by omega) HBr.out.size ?_)
          rintro v5 w5 ⟨g5, c5, rfl, ho5, hb5, -, -⟩
          have HO5 : Hid (OwnPl w5 w.heap.size (.slice (some ⟨g5, 0, none⟩) n2 c5) y) := by
            first | exact ho5 | (have := ho5; simp only [Nat.zero_add] at this; exact this)
          have HB5 := Lib.hid (HBr.out.trans hb5)
          clear ho5 hb5 hd1
          go_wp2
          go_roundw
          case rel => exact ⟨HB5, .inr (.inr ⟨rfl, _, _, by first | rfl | (rw [Nat.zero_add]), HO5⟩)⟩
          case measure => simp [intOf]
        · go_wp2
          go_ret
          exact ⟨_, _, rfl, HOr.out, HBr.out⟩
theorem concatAdd (b : Nat) (p1 : Option Addr) (n1 c1 g2 o2 n2 c2 : Nat) (x y : List M.Pc) (w : World) (hx : Pls w p1 n1 x) (hy : Pls w (some ⟨g2, o2, none⟩) n2 y)
    (hc0 : w.cell? ⟨b, 0, none⟩ = some (.slice p1 n1 c1)) (hc1 : w.cell? ⟨b, 1, none⟩ = some (.slice (some ⟨g2, o2, none⟩) n2 c2)) (h0 : 0 < n2) (hn : n1 + n2 ≤ 1000) :
    Calls Try.prog 104 #[.slice (some ⟨b, 0, none⟩) 2 2] w fun e w' => ∃ g cc, e = .returned (.slice (some ⟨g, 0, none⟩) (n1 + n2) cc) ∧ OwnPl w' w.heap.size (.slice (some ⟨g, 0, none⟩) (n1 + n2) cc) (x ++ y) ∧ Below w.heap.size w w' := by
  rcases Nat.eq_zero_or_pos n1 with h | h
  · subst h
    obtain rfl : x = [] := List.eq_nil_of_length_eq_zero hx.1
    rw [Nat.zero_add]
    exact concatPlE b p1 c1 g2 o2 n2 c2 y w hy hc0 hc1 h0 (by omega)
  · obtain ⟨g1, o1, -, -, -, -, rfl, -⟩ := hx.at 0 h
    exact concatPl b g1 o1 n1 c1 g2 o2 n2 c2 x y w hx hy hc0 hc1 (by omega) hn
end V
end Go.Proofs.Ytobdgboejbbfiaa

namespace Go.Proofs.Ytobdgboejbbfiaa
namespace V
set_option maxRecDepth 100000
open Go.RowKit
/-- A box sb of a graph whose places lie in memory of their own. -/
def SRel (w1 wx : World) (s : Value) (x : Int) (l : List M.Pc) : Prop :=
  ∃ (sb : Nat) (sa : Option Addr) (sn sc B : Nat) (w0 : World), s = .pointer (some ⟨sb, 0, none⟩) ∧ GBox wx sb x sa sn sc ∧ w1.heap.size ≤ sb ∧ w1.heap.size ≤ B ∧ B ≤ wx.heap.size ∧ OwnPl w0 B (.slice sa sn sc) l ∧ w0.heap.size ≤ wx.heap.size ∧ Same B w0.heap.size w0 wx ∧ ¬ (B ≤ sb ∧ sb < w0.heap.size) ∧ Below w1.heap.size w1 wx
theorem sRel_new {w1 wv : World} {sa : Option Addr} {sn sc B : Nat} {x : Int} {l : List M.Pc} {t : TypeId} (hO : OwnPl wv B (.slice sa sn sc) l) (hB : w1.heap.size ≤ B) (hB2 : B ≤ wv.heap.size) (hb : Below w1.heap.size w1 wv) : SRel w1 (wv.alloc (.cells #[.int .i64 x, .slice sa sn sc] t)) (.pointer (some ⟨wv.heap.size, 0, none⟩)) x l :=
  ⟨wv.heap.size, sa, sn, sc, B, wv, rfl, gBox_new _ _ _ _ _ _, hb.size, hB, by simp; omega, hO, by simp, fun k _ q2 => Below.heap_alloc wv _ _ q2, by omega, hb.trans ((b_alloc wv _).mono hb.size)⟩
theorem sRel_old {w1 wv : World} {sa : Option Addr} {sb sn sc B : Nat} {x : Int} {l : List M.Pc} (hR : ResG wv sb) (hs1 : w1.heap.size ≤ sb) (hs : sb < B) (hB2 : B ≤ wv.heap.size) (hO : OwnPl wv B (.slice sa sn sc) l) (hb : Below w1.heap.size w1 wv) : SRel w1 ((wv.setCell ⟨sb, 0, none⟩ (.int .i64 x)).setCell ⟨sb, 1, none⟩ (.slice sa sn sc)) (.pointer (some ⟨sb, 0, none⟩)) x l := by
  obtain ⟨r0, r1, -, -⟩ := hR
  refine ⟨sb, sa, sn, sc, B, wv, rfl, ⟨by simp [go_sem, r0, r1, cell_lt r0], by simp [go_sem, r0, r1, cell_lt r0]⟩, hs1, by omega, by simpa using hB2, hO, by simp, fun k q1 q2 => ?_, by omega, (hb.setCell (p := ⟨sb, 0, none⟩) hs1 _).setCell (p := ⟨sb, 1, none⟩) hs1 _⟩
  rw [Below.heap_setCell _ _ _ _ (by show k ≠ sb; omega), Below.heap_setCell _ _ _ _ (by show k ≠ sb; omega)]
theorem resG_dr (w : World) (t : TypeId) : ResG (w.alloc (.cells #[.int .i64 0, .slice none 0 0] t)).drew w.heap.size := ⟨by simp [go_sem], by simp [go_sem], by simp [go_sem], by simp [go_sem]⟩
end V
end Go.Proofs.Ytobdgboejbbfiaa

namespace Go.Proofs.Ytobdgboejbbfiaa.V
open Go.RowKit Go.ChangeShapes Go.WideShapes Go.Deep Go.Joins
theorem one_of {H : Type} {enc : TypeId × Value → H} {P : Program} {w : World} {base : Nat} {spare : Nat → Bool} {held : Bool} {q : TypeId} {fuel j : Nat} {cs : List Value} {y : DataW H × List MemPlace} (hq : P.underlying q = some (.int .i64)) (hj : j < cs.length)
    (h : DataW.trod enc P w base spare held fuel q ((cs.drop j).take 1) = some y) : ∃ z : Int, cs[j]? = some (.int .i64 z) := by
  obtain ⟨z, hz, -⟩ := DataW.trod_int hq h
  rw [List.drop_eq_getElem_cons hj, List.take_succ_cons] at hz
  injection hz with e _
  exact ⟨z, by rw [List.getElem?_eq_getElem hj, e]⟩
theorem pls_open {H : Type} {enc : TypeId × Value → H} {P : Program} {w : World} {base : Nat} {held : Bool} {t e q : TypeId} {f0 f1 f2 f3 : Field} {fuel : Nat} {cs : List Value} {x : DataW H × List MemPlace} (ht : P.underlying t = some (.slice e)) (he : P.underlying e = some (.struct #[f0, f1, f2, f3]))
    (h0 : f0.type = q ∧ f0.offset = 0) (h1 : f1.type = q ∧ f1.offset = 1) (h2 : f2.type = q ∧ f2.offset = 2) (h3 : f3.type = q ∧ f3.offset = 3) (hq : P.underlying q = some (.int .i64)) (ce : P.cellsOf e = 4) (cq : P.cellsOf q = 1)
    (h : DataW.trod enc P w base (fun _ => true) held fuel t cs = some x) :
    ∃ a len cap l, cs = [.slice a len cap] ∧ Pls w a len l := by
  rcases open_slice ht h with ⟨rfl, -⟩ | ⟨a, len, cap, m, n, D, Pl, rfl, hb, hl, hm, hmm, -, hi⟩
  · exact ⟨none, 0, 0, [], rfl, rfl, Nat.zero_le _, .inl rfl⟩
  · have key : ∀ i, ∃ p : M.Pc, i < len → w.cell? (a.add (i * 4)) = some (.int .i64 p.1) ∧ w.cell? ((a.add (i * 4)).add 1) = some (.int .i64 p.2.1) ∧ w.cell? ((a.add (i * 4)).add 2) = some (.int .i64 p.2.2.1) ∧ w.cell? ((a.add (i * 4)).add 3) = some (.int .i64 p.2.2.2) := fun i => by
      by_cases hil : i < len
      · have him : i < m := by rw [hmm]; simp; omega
        obtain ⟨cs', hc, ht'⟩ := hi i him
        rw [ce] at hc
        obtain ⟨-, hlen, hat⟩ := World.cells?_some hc
        obtain ⟨y0, y1, y2, y3, n', -, -, t0, t1, t2, t3⟩ := trod_struct4 he ht'
        rw [h0.1, h0.2, cq] at t0
        rw [h1.1, h1.2, cq] at t1
        rw [h2.1, h2.2, cq] at t2
        rw [h3.1, h3.2, cq] at t3
        obtain ⟨z0, e0⟩ := one_of hq (by omega) t0
        obtain ⟨z1, e1⟩ := one_of hq (by omega) t1
        obtain ⟨z2, e2⟩ := one_of hq (by omega) t2
        obtain ⟨z3, e3⟩ := one_of hq (by omega) t3
        have a0 : (a.add (i * 4)).add 0 = a.add (i * 4) := by unfold Addr.add; split <;> simp_all
        exact ⟨(z0, z1, z2, z3), fun _ => ⟨by rw [← a0, hat 0 (by omega), e0], by rw [hat 1 (by omega), e1], by rw [hat 2 (by omega), e2], by rw [hat 3 (by omega), e3]⟩⟩
      · exact ⟨M.pz, fun q => absurd q hil⟩
    obtain ⟨f, hf⟩ := Classical.axiomOfChoice key
    refine ⟨some a, len, cap, (List.range len).map f, rfl, by simp, by omega, ?_⟩
    by_cases hz : len = 0
    · exact .inl hz
    · have hsp : a.spot = none := by
        have := (hf 0 (by omega)).1
        simpa [Addr.add] using World.cell?_spot this
      obtain ⟨b, off, spot⟩ := a
      simp only at hsp
      subst hsp
      have ad : ∀ o j, (⟨b, o, none⟩ : Addr).add j = ⟨b, o + j, none⟩ := fun o j => by unfold Addr.add; split <;> simp_all
      refine .inr ⟨b, off, rfl, ?_, fun i hi => ?_⟩
      · have := cell_lt (hf 0 (by omega)).1
        simpa [Addr.add] using this
      · obtain ⟨k0, k1, k2, k3⟩ := hf i hi
        have eL : ((List.range len).map f).getD i M.pz = f i := by simp [hi]
        rw [eL]
        rw [ad] at k0
        rw [ad, ad] at k1 k2 k3
        exact ⟨k0, k1, k2, k3⟩
end Go.Proofs.Ytobdgboejbbfiaa.V
