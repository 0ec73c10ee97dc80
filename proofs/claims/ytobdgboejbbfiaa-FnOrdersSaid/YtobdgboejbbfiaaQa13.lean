/- Texts laid together: Grh, Gri, Grj, Grk, Grl, Grm. -/
import Derived.Test.YtobdgboejbbfiaaQa12
import Derived.Lib.AppendZeros
set_option linter.unusedSimpArgs false
set_option linter.unusedVariables false
set_option linter.unusedSectionVars false
namespace Go.Proofs.Ytobdgboejbbfiaa
namespace M
def ixCode (e : Int) (l : List Pc) (i : Int) : Int := if isGr e l then (if inB i 0 ((l.length : Int) - 1) then 0 else 2) else 1
def chgP (p : Pc) (d t : Int) : Pc := (p.1, p.2.1, d, t)
def chgRes (e : Int) (l : List Pc) (i d t : Int) : Int × List Pc × Int := if isGr e l then (if inB i 0 ((l.length : Int) - 1) && (inB d 0 1000 && inB t 0 5) then (e, l.set i.toNat (chgP (l.getD i.toNat pz) d t), 0) else (0, [], 2)) else (0, [], 1)
theorem chg_stF {l : List Pc} {i : Nat} (hi : i < l.length) (d t : Int) : stF (stF l i 2 d) i 3 t = l.set i (chgP (l.getD i pz) d t) := by
  simp [stF, List.getD_eq_getElem?_getD, hi, setP, chgP]
theorem chgRes_len (e : Int) (l : List Pc) (i d t : Int) : (chgRes e l i d t).2.1.length ≤ 30 := by
  unfold chgRes
  cases h : isGr e l with
  | false => simp
  | true =>
    have := (isGr_in h).2
    cases h2 : (inB i 0 ((l.length : Int) - 1) && (inB d 0 1000 && inB t 0 5)) with
    | false => simp
    | true => simp; omega
end M
namespace V
set_option maxRecDepth 100000
open Go.RowKit
/-- A graph and a code. -/
def GRes (r : Int × List M.Pc × Int) (w : World) (e : Ending) (w' : World) : Prop :=
  ∃ a n c, e = .returned (.tuple #[.agg #[.int .i64 r.1, .slice a n c], .int .i64 r.2.2]) ∧ OwnPl w' w.heap.size (.slice a n c) r.2.1 ∧ Below w.heap.size w w'
theorem GRes.nil {r : Int × List M.Pc × Int} {c : Int} {w w' : World} (hr : r = (0, [], c)) (hb : Below w.heap.size w w') : GRes r w (.returned (.tuple #[.agg #[.int .i64 0, .slice none 0 0], .int .i64 c])) w' := by
  subst hr
  exact ⟨none, 0, 0, rfl, ownPl_nil _ _, hb⟩
/-- The cell of the result, before it is written. -/
def ResG (w : World) (R : Nat) : Prop := w.cell? ⟨R, 0, none⟩ = some (.int .i64 0) ∧ w.cell? ⟨R, 1, none⟩ = some (.slice none 0 0) ∧ w.frozen? ⟨R, 0, none⟩ = false ∧ w.frozen? ⟨R, 1, none⟩ = false
theorem ResG.below {w w' : World} {R : Nat} (h : ResG w R) (hb : Below w.heap.size w w') : ResG w' R := by
  obtain ⟨h1, h2, h3, h4⟩ := h
  have hl : R < w.heap.size := cell_lt h1
  exact ⟨(hb.cell (p := ⟨R, 0, none⟩) hl).trans h1, (hb.cell (p := ⟨R, 1, none⟩) hl).trans h2, (hb.frozen (p := ⟨R, 0, none⟩) hl).trans h3, (hb.frozen (p := ⟨R, 1, none⟩) hl).trans h4⟩
theorem resG_new (w : World) (t : TypeId) : ResG (w.alloc (.cells #[.int .i64 0, .slice none 0 0] t)) w.heap.size := ⟨by simp [go_sem], by simp [go_sem], by simp [go_sem], by simp [go_sem]⟩
set_option maxRecDepth 100000 in
set_option maxHeartbeats 1000000 in
theorem sIndex (x : Int) (a : Option Addr) (n cap : Nat) (l : List M.Pc) (i : Int) (w : World) (h : Pls w a n l) :
    Calls Try.prog 89 #[.agg #[.int .i64 x, .slice a n cap], .int .i64 i] w fun e w' => e = .returned (.int .i64 (M.ixCode x l i)) ∧ Below w.heap.size w w' := by
  have hb0 := b_alloc w (.cells #[.int .i64 x, .slice a n cap] 26)
  have hm := h.2.1
  unfold maxLen at hm
  have hl : l.length = n := h.1
  obtain ⟨r, hr⟩ : ∃ r, r = M.isGr x l := ⟨_, rfl⟩
  have HS : Hid (Calls Try.prog 68 #[.agg #[.int .i64 x, .slice a n cap]] (w.alloc (.cells #[.int .i64 x, .slice a n cap] 26)) fun e w' => e = .returned (.bool r) ∧ Below (w.alloc (.cells #[.int .i64 x, .slice a n cap] 26)).heap.size (w.alloc (.cells #[.int .i64 x, .slice a n cap] 26)) w') := by
    rw [hr]; exact sIsEventGraph x a n cap l _ (h.below hb0)
  have HCd : Hid (∀ b, M.inB i 0 ((n : Int) - 1) = b → M.ixCode x l i = if r then (if b then 0 else 2) else 1) := fun b q => by unfold M.ixCode; rw [hl, q, ← hr]
  have hG := gBox_new w x a n cap 26
  obtain ⟨wb, hwb⟩ : ∃ z, z = w.alloc (.cells #[.int .i64 x, .slice a n cap] 26) := ⟨_, rfl⟩
  rw [← hwb] at HS hb0 hG
  have HG := Lib.hid hG
  have HB0 := Lib.hid hb0
  clear hr h hG hb0 hl
  go_enter Try.func89, Try.ntmps89
  go_wp2_with fail
  rw [← hwb]
  clear hwb
  refine (HS.out).mono ?_
  rintro e w1 ⟨rfl, hb1⟩
  have HB1 := Lib.hid (HB0.out.trans (hb1.mono HB0.out.size))
  obtain ⟨g0, g1⟩ := HG.out.below hb1
  clear hb1
  cases r with
  | false =>
    have HE := Lib.hid (HCd.out _ rfl)
    go_wp2
    go_ret
    exact ⟨by rw [HE.out]; rfl, HB1.out⟩
  | true =>
    cases h0 : (decide (0 ≤ i) && decide (i ≤ (n : Int) - 1)) with
    | false =>
      have HE := Lib.hid (HCd.out false h0)
      go_wp2_with (go_at_call 85; refine (sIn _ _ _ _).mono ?_; rintro e w' ⟨rfl, rfl⟩)
      go_ret
      exact ⟨by rw [HE.out]; rfl, HB1.out⟩
    | true =>
      have HE := Lib.hid (HCd.out true h0)
      go_wp2_with (go_at_call 85; refine (sIn _ _ _ _).mono ?_; rintro e w' ⟨rfl, rfl⟩)
      go_ret
      exact ⟨by rw [HE.out]; rfl, HB1.out⟩
set_option maxRecDepth 100000 in
set_option maxHeartbeats 400000 in
theorem hasIndex (x : Int) (a : Option Addr) (n cap : Nat) (i : Int) (w : World) (hn : n ≤ 1048576) : Calls Try.prog 90 #[.agg #[.int .i64 x, .slice a n cap], .int .i64 i] w fun e w' => e = .returned (.bool (M.inB i 0 ((n : Int) - 1))) ∧ Below w.heap.size w w' := by
  go_enter Try.func90, Try.ntmps90
  go_wp2_with (go_at_call 99; refine (isUpTo i ((n : Int) - 1) _).mono ?_; rintro e w' ⟨rfl, rfl⟩)
  go_ret
  exact ⟨rfl, b_alloc _ _⟩
set_option maxRecDepth 100000 in
set_option maxHeartbeats 400000 in
theorem withPl (x : Int) (a : Option Addr) (n cap : Nat) (a' : Option Addr) (n' cap' : Nat) (w : World) : Calls Try.prog 102 #[.agg #[.int .i64 x, .slice a n cap], .slice a' n' cap'] w fun e w' => e = .returned (.agg #[.int .i64 x, .slice a' n' cap']) ∧ Below w.heap.size w w' := by
  go_enter Try.func102, Try.ntmps102
  go_wp2
  exact bodyPost_ret (v := .agg #[.int .i64 x, .slice a' n' cap']) (by simp [results, Try.results102, go_sem]) rfl ⟨rfl, b_alloc2 _ _ _⟩
set_option maxRecDepth 100000 in
set_option maxHeartbeats 400000 in
theorem change (g o : Nat) (d t : Int) (w : World) (h2 : ∃ v, w.cell? ⟨g, o + 2, none⟩ = some v) (h3 : ∃ v, w.cell? ⟨g, o + 3, none⟩ = some v) (f2 : w.frozen? ⟨g, o + 2, none⟩ = false) (f3 : w.frozen? ⟨g, o + 3, none⟩ = false) :
    Calls Try.prog 101 #[.pointer (some ⟨g, o, none⟩), .int .i64 d, .int .i64 t] w fun e w' => e = .returned (.tuple #[]) ∧ w' = (w.setCell ⟨g, o + 2, none⟩ (.int .i64 d)).setCell ⟨g, o + 3, none⟩ (.int .i64 t) := by
  obtain ⟨v2, c2⟩ := h2
  obtain ⟨v3, c3⟩ := h3
  go_enter Try.func101, Try.ntmps101
  go_wp2
  go_end0
  exact ⟨rfl, rfl⟩
end V
end Go.Proofs.Ytobdgboejbbfiaa

namespace Go.Proofs.Ytobdgboejbbfiaa
namespace M
theorem chg_cases (e : Int) (l : List Pc) (i d t : Int) :
    (ixCode e l i = 1 ∧ chgRes e l i d t = (0, [], 1)) ∨ (ixCode e l i = 2 ∧ chgRes e l i d t = (0, [], 2)) ∨
    (∃ k : Nat, i = k ∧ k < l.length ∧ l.length ≤ 30 ∧ ixCode e l i = 0 ∧ (inB d 0 1000 = true → inB t 0 5 = true → chgRes e l i d t = (e, stF (stF l k 2 d) k 3 t, 0)) ∧ (inB d 0 1000 = false → chgRes e l i d t = (0, [], 2)) ∧ (inB t 0 5 = false → chgRes e l i d t = (0, [], 2))) := by
  unfold ixCode chgRes
  cases h : isGr e l with
  | false => exact .inl ⟨rfl, rfl⟩
  | true =>
    refine .inr ?_
    cases h2 : inB i 0 ((l.length : Int) - 1) with
    | false => exact .inl ⟨rfl, rfl⟩
    | true =>
      refine .inr ?_
      have h3 := h2
      unfold inB at h3
      simp at h3
      refine ⟨i.toNat, by omega, by omega, (isGr_in h).2, by simp, fun q1 q2 => ?_, fun q => by simp [q], fun q => by simp [q]⟩
      rw [q1, q2, chg_stF (by omega)]
      simp
theorem chg_cases2 (e : Int) (l : List Pc) (i d t : Int) :
    (isGr e l = false ∧ chgRes e l i d t = (0, [], 1)) ∨ (isGr e l = true ∧ l.length ≤ 30 ∧ inB i 0 ((l.length : Int) - 1) = false ∧ chgRes e l i d t = (0, [], 2)) ∨
    (∃ k : Nat, i = k ∧ k < l.length ∧ l.length ≤ 30 ∧ isGr e l = true ∧ inB i 0 ((l.length : Int) - 1) = true ∧ (inB d 0 1000 = true → inB t 0 5 = true → chgRes e l i d t = (e, stF (stF l k 2 d) k 3 t, 0)) ∧ (inB d 0 1000 = false → chgRes e l i d t = (0, [], 2)) ∧ (inB t 0 5 = false → chgRes e l i d t = (0, [], 2))) := by
  have hc := chg_cases e l i d t
  unfold ixCode at hc
  cases h : isGr e l with
  | false => rw [h] at hc; simp at hc; exact .inl ⟨rfl, hc⟩
  | true =>
    refine .inr ?_
    rw [h] at hc
    cases h2 : inB i 0 ((l.length : Int) - 1) with
    | false => rw [h2] at hc; simp at hc; exact .inl ⟨rfl, (isGr_in h).2, rfl, hc⟩
    | true =>
      refine .inr ?_
      rw [h2] at hc; simp at hc
      obtain ⟨k, q1, q2, q3, q4, q5, q6⟩ := hc
      exact ⟨k, q1, q2, q3, rfl, rfl, q4, q5, q6⟩
end M
namespace V
set_option maxRecDepth 100000
open Go.RowKit
set_option maxRecDepth 100000 in
set_option maxHeartbeats 2000000 in
theorem sChangePlace (x : Int) (a : Option Addr) (n cap : Nat) (l : List M.Pc) (i d t : Int) (w : World) (h : Pls w a n l) :
    Calls Try.prog 49 #[.agg #[.int .i64 x, .slice a n cap], .int .i64 i, .int .i64 d, .int .i64 t] w (GRes (M.chgRes x l i d t) w) := by
  have HI := Lib.hid h
  have hl : l.length = n := h.1
  have hb0 := b_alloc2 w (.cells #[.int .i64 x, .slice a n cap] 26) (.cells #[.int .i64 0, .slice none 0 0] 26)
  have hG : GBox ((w.alloc (.cells #[.int .i64 x, .slice a n cap] 26)).alloc (.cells #[.int .i64 0, .slice none 0 0] 26)) w.heap.size x a n cap := (gBox_new w x a n cap 26).below (b_alloc _ _)
  have hR : ResG ((w.alloc (.cells #[.int .i64 x, .slice a n cap] 26)).alloc (.cells #[.int .i64 0, .slice none 0 0] 26)) (w.heap.size + 1) := by
    have := resG_new (w.alloc (.cells #[.int .i64 x, .slice a n cap] 26)) 26
    rwa [World.size_alloc] at this
  obtain ⟨wb, hwb⟩ : ∃ z, z = (w.alloc (.cells #[.int .i64 x, .slice a n cap] 26)).alloc (.cells #[.int .i64 0, .slice none 0 0] 26) := ⟨_, rfl⟩
  rw [← hwb] at hb0 hG hR
  have HS := Lib.hid (sIndex x a n cap l i wb (h.below hb0))
  have HG := Lib.hid hG
  have HRs := Lib.hid hR
  have HB0 := Lib.hid hb0
  obtain ⟨r, hr⟩ : ∃ r, r = M.chgRes x l i d t := ⟨_, rfl⟩
  have HC := Lib.hid (M.chg_cases x l i d t)
  obtain ⟨cd, hcd⟩ : ∃ c, c = M.ixCode x l i := ⟨_, rfl⟩
  rw [← hr] at HC ⊢
  rw [← hcd] at HC HS
  clear h hG hb0 hR hr hcd
  go_enter Try.func49, Try.ntmps49
  go_wp2_with fail
  rw [← hwb]
  clear hwb
  refine (HS.out).mono ?_
  rintro e w1 ⟨rfl, hb1⟩
  have HB1 := Lib.hid (HB0.out.trans (hb1.mono HB0.out.size))
  have HI1 := Lib.hid (HI.out.below HB1.out)
  obtain ⟨g0, g1⟩ := HG.out.below hb1
  have HR1 := Lib.hid (HRs.out.below hb1)
  obtain ⟨r0, r1, f0, f1⟩ := HR1.out
  have z1 : w.heap.size + 1 < w1.heap.size := cell_lt r0
  clear hb1 HS
  rcases HC.out with ⟨rfl, hr⟩ | ⟨rfl, hr⟩ | ⟨k, rfl, hk, h30, rfl, hr1, hr2, hr3⟩
  · have HR := Lib.hid hr
    clear hr HC
    go_wp2
    exact bodyPost_ret (v := .tuple #[.agg #[.int .i64 0, .slice none 0 0], .int .i64 1]) (by simp [results, Try.results49, go_sem, z1, r0, r1]) rfl (GRes.nil HR.out ((HB1.out.setCell (by show _ ≤ w.heap.size + 1; omega) _).setCell (by show _ ≤ w.heap.size + 1; omega) _))
  · have HR := Lib.hid hr
    clear hr HC
    go_wp2
    exact bodyPost_ret (v := .tuple #[.agg #[.int .i64 0, .slice none 0 0], .int .i64 2]) (by simp [results, Try.results49, go_sem, z1, r0, r1]) rfl (GRes.nil HR.out ((HB1.out.setCell (by show _ ≤ w.heap.size + 1; omega) _).setCell (by show _ ≤ w.heap.size + 1; omega) _))
  · have HX1 := Lib.hid hr1
    have HX2 := Lib.hid hr2
    have HX3 := Lib.hid hr3
    unfold M.inB at HX1 HX2 HX3
    clear hr1 hr2 hr3 HC
    have hki : (k : Int) < (n : Int) := by omega
    cases h0 : (decide (0 ≤ d) && decide (d ≤ 1000)) with
    | false =>
      have HR := Lib.hid (HX2.out h0)
      clear HX1 HX2 HX3
      go_wp2_with (go_at_call 85; refine (sIn _ _ _ _).mono ?_; rintro e w' ⟨rfl, rfl⟩)
      exact bodyPost_ret (v := .tuple #[.agg #[.int .i64 0, .slice none 0 0], .int .i64 2]) (by simp [results, Try.results49, go_sem, z1, r0, r1]) rfl (GRes.nil HR.out ((HB1.out.setCell (by show _ ≤ w.heap.size + 1; omega) _).setCell (by show _ ≤ w.heap.size + 1; omega) _))
    | true =>
      cases h1 : (decide (0 ≤ t) && decide (t ≤ 5)) with
      | false =>
        have HR := Lib.hid (HX3.out h1)
        clear HX1 HX2 HX3
        go_wp2_with (go_at_call 85; refine (sIn _ _ _ _).mono ?_; rintro e w' ⟨rfl, rfl⟩)
        exact bodyPost_ret (v := .tuple #[.agg #[.int .i64 0, .slice none 0 0], .int .i64 2]) (by simp [results, Try.results49, go_sem, z1, r0, r1]) rfl (GRes.nil HR.out ((HB1.out.setCell (by show _ ≤ w.heap.size + 1; omega) _).setCell (by show _ ≤ w.heap.size + 1; omega) _))
      | true =>
        have HR := Lib.hid (HX1.out h0 h1)
        clear HX1 HX2 HX3
        obtain ⟨b, off, -, -, -, -, rfl, -⟩ := HI1.out.at k (by omega)
        go_wp2_with (first | (go_at_call 85; refine (sIn _ _ _ _).mono ?_; rintro e w' ⟨rfl, rfl⟩) | fail)
        refine (sOwnG x b off n cap l w1 HI1.out (by omega)).mono ?_
        rintro e w2 ⟨g, c, rfl, ho, hb⟩
        have HO := Lib.hid ho
        obtain ⟨r0', r1', f0', f1'⟩ := HR1.out.below hb
        have HB2 := Lib.hid (HB1.out.trans (hb.mono HB1.out.size))
        have z2 := hb.size
        obtain ⟨g', o', p0, p1, p2, p3, hgg, hglt, -, c0, c1, c2, c3⟩ := ho.pls.at k (by omega)
        injection hgg with hgg
        injection hgg with e1 e2
        subst e1 e2
        simp only [Nat.zero_add] at c0 c1 c2 c3
        have hgB : w1.heap.size ≤ g := (ho.lt rfl).1
        have f2 := ho.frozenAt (k * 4 + 2)
        have f3 := ho.frozenAt (k * 4 + 3)
        have hb3 := b_alloc w2 (.cells #[.int .i64 x, .slice (some ⟨g, 0, none⟩) n c] 26)
        have hgne : g ≠ w2.heap.size := by omega
        have hRne : w.heap.size + 1 ≠ g := by omega
        have hRn2 : w.heap.size + 1 ≠ w2.heap.size := by omega
        have d2 := (hb3.cell (p := ⟨g, k * 4 + 2, none⟩) hglt).trans c2
        have d3 := (hb3.cell (p := ⟨g, k * 4 + 3, none⟩) hglt).trans c3
        have hbs : Below w1.heap.size w1 (((w2.setCell ⟨g, k * 4 + 2, none⟩ (.int .i64 d)).setCell ⟨g, k * 4 + 3, none⟩ (.int .i64 t)).alloc (.cells #[.int .i64 x, .slice (some ⟨g, 0, none⟩) n c] 26)) :=
          ((hb.setCell (p := ⟨g, k * 4 + 2, none⟩) hgB _).setCell (p := ⟨g, k * 4 + 3, none⟩) hgB _).alloc (by simpa using z2) _
        have HO4 : Hid (OwnPl (((w2.setCell ⟨g, k * 4 + 2, none⟩ (.int .i64 d)).setCell ⟨g, k * 4 + 3, none⟩ (.int .i64 t)).alloc (.cells #[.int .i64 x, .slice (some ⟨g, 0, none⟩) n c] 26)) w1.heap.size (.slice (some ⟨g, 0, none⟩) n c) (M.stF (M.stF l k 2 d) k 3 t)) :=
          ((ho.setF d (i := k) (j := 2) (by omega) (by omega)).setF t (i := k) (j := 3) (by omega) (by omega)).below (b_alloc _ _)
        obtain ⟨s0, s1, y0, y1⟩ := HR1.out.below hbs
        have HB4 := Lib.hid (HB1.out.trans (hbs.mono HB1.out.size))
        have zz : w.heap.size + 1 < w2.heap.size := by omega
        have HO5 : Hid (OwnPl (((((w2.setCell ⟨g, k * 4 + 2, none⟩ (.int .i64 d)).setCell ⟨g, k * 4 + 3, none⟩ (.int .i64 t)).setCell ⟨w.heap.size + 1, 0, none⟩ (.int .i64 x)).setCell ⟨w.heap.size + 1, 1, none⟩ (.slice (some ⟨g, 0, none⟩) n c)).alloc (.cells #[.int .i64 x, .slice (some ⟨g, 0, none⟩) n c] 26)) w.heap.size (.slice (some ⟨g, 0, none⟩) n c) (M.stF (M.stF l k 2 d) k 3 t)) := by
          refine OwnPl.below ?_ (b_alloc _ _)
          refine (((ho.setF d (i := k) (j := 2) (by omega) (by omega)).setF t (i := k) (j := 3) (by omega) (by omega)).keepB fun q hq => ?_).mono (by omega)
          simp [Value.ownBlock] at hq
          subst hq
          rw [Below.heap_setCell _ _ _ _ (by show g ≠ w.heap.size + 1; omega), Below.heap_setCell _ _ _ _ (by show g ≠ w.heap.size + 1; omega)]
        have hba : Below w.heap.size w w2 := HB1.out.trans (hb.mono HB1.out.size)
        have hgw : w.heap.size ≤ g := by omega
        have HB5 := Lib.hid (((((hba.setCell (p := ⟨g, k * 4 + 2, none⟩) hgw (.int .i64 d)).setCell (p := ⟨g, k * 4 + 3, none⟩) hgw (.int .i64 t)).setCell (p := ⟨w.heap.size + 1, 0, none⟩) (by show _ ≤ w.heap.size + 1; omega) (.int .i64 x)).setCell (p := ⟨w.heap.size + 1, 1, none⟩) (by show _ ≤ w.heap.size + 1; omega) (.slice (some ⟨g, 0, none⟩) n c)).alloc (by simp; omega) (.cells #[.int .i64 x, .slice (some ⟨g, 0, none⟩) n c] 26))
        clear ho hb g0 g1 r0 r1 f0 f1 c0 c1 hb3 hbs HB4 HO4 hba
        go_wp2
        rw [HR.out]
        exact bodyPost_ret (v := .tuple #[.agg #[.int .i64 x, .slice (some ⟨g, 0, none⟩) n c], .int .i64 0]) (by simp [results, Try.results49, go_sem, zz, hRne, hRn2, r0', r1', s0, s1]) rfl ⟨_, _, _, rfl, HO5.out, HB5.out⟩
set_option maxRecDepth 100000 in
set_option maxHeartbeats 2000000 in
theorem changePlace (x : Int) (a : Option Addr) (n cap : Nat) (l : List M.Pc) (i d t : Int) (w : World) (h : Pls w a n l) :
    Calls Try.prog 48 #[.agg #[.int .i64 x, .slice a n cap], .int .i64 i, .int .i64 d, .int .i64 t] w (GRes (M.chgRes x l i d t) w) := by
  have HI := Lib.hid h
  have hl : l.length = n := h.1
  have hb0 := b_alloc2 w (.cells #[.int .i64 x, .slice a n cap] 26) (.cells #[.int .i64 0, .slice none 0 0] 26)
  have hG : GBox ((w.alloc (.cells #[.int .i64 x, .slice a n cap] 26)).alloc (.cells #[.int .i64 0, .slice none 0 0] 26)) w.heap.size x a n cap := (gBox_new w x a n cap 26).below (b_alloc _ _)
  have hR : ResG ((w.alloc (.cells #[.int .i64 x, .slice a n cap] 26)).alloc (.cells #[.int .i64 0, .slice none 0 0] 26)) (w.heap.size + 1) := by
    have := resG_new (w.alloc (.cells #[.int .i64 x, .slice a n cap] 26)) 26
    rwa [World.size_alloc] at this
  obtain ⟨wb, hwb⟩ : ∃ z, z = (w.alloc (.cells #[.int .i64 x, .slice a n cap] 26)).alloc (.cells #[.int .i64 0, .slice none 0 0] 26) := ⟨_, rfl⟩
  rw [← hwb] at hb0 hG hR
  have HS := Lib.hid (isEventGraph x a n cap l wb (h.below hb0))
  have HG := Lib.hid hG
  have HRs := Lib.hid hR
  have HB0 := Lib.hid hb0
  obtain ⟨r, hr⟩ : ∃ r, r = M.chgRes x l i d t := ⟨_, rfl⟩
  have HC := Lib.hid (M.chg_cases2 x l i d t)
  obtain ⟨b0, hb0'⟩ : ∃ c, c = M.isGr x l := ⟨_, rfl⟩
  rw [← hr] at HC ⊢
  rw [← hb0', hl] at HC
  rw [← hb0'] at HS
  have HX : Hid (∀ W, n ≤ 1048576 → Calls Try.prog 90 #[.agg #[.int .i64 x, .slice a n cap], .int .i64 i] W fun e w' => e = .returned (.bool (M.inB i 0 ((n : Int) - 1))) ∧ Below W.heap.size W w') := fun W hn => hasIndex x a n cap i W hn
  obtain ⟨b1, hb1'⟩ : ∃ c, c = M.inB i 0 ((n : Int) - 1) := ⟨_, rfl⟩
  rw [← hb1'] at HC HX
  have hmx := h.2.1
  clear h hG hb0 hR hr hb0' hb1'
  go_enter Try.func48, Try.ntmps48
  go_wp2_with fail
  rw [← hwb]
  clear hwb
  refine (HS.out).mono ?_
  rintro e w1 ⟨rfl, hb1⟩
  have HB1 := Lib.hid (HB0.out.trans (hb1.mono HB0.out.size))
  have HI1 := Lib.hid (HI.out.below HB1.out)
  have HG1 := Lib.hid (HG.out.below hb1)
  obtain ⟨g0, g1⟩ := HG1.out
  have HR1 := Lib.hid (HRs.out.below hb1)
  obtain ⟨r0, r1, f0, f1⟩ := HR1.out
  have z1 : w.heap.size + 1 < w1.heap.size := cell_lt r0
  clear hb1 HS
  rcases HC.out with ⟨rfl, hr⟩ | ⟨rfl, h30, rfl, hr⟩ | ⟨k, rfl, hk, h30, rfl, rfl, hr1, hr2, hr3⟩
  · have HR := Lib.hid hr
    clear hr HC
    go_wp2
    exact bodyPost_ret (v := .tuple #[.agg #[.int .i64 0, .slice none 0 0], .int .i64 1]) (by simp [results, Try.results48, go_sem, z1, r0, r1]) rfl (GRes.nil HR.out ((HB1.out.setCell (by show _ ≤ w.heap.size + 1; omega) _).setCell (by show _ ≤ w.heap.size + 1; omega) _))
  · have HR := Lib.hid hr
    clear hr HC
    go_wp2_with fail
    refine (HX.out _ (by omega)).mono ?_
    rintro e w2 ⟨rfl, hb2⟩
    obtain ⟨r0', r1', f0', f1'⟩ := HR1.out.below hb2
    have HB2 := Lib.hid (HB1.out.trans (hb2.mono HB1.out.size))
    have z2 : w.heap.size + 1 < w2.heap.size := cell_lt r0'
    clear hb2 r0 r1 f0 f1 HX
    go_wp2
    exact bodyPost_ret (v := .tuple #[.agg #[.int .i64 0, .slice none 0 0], .int .i64 2]) (by simp [results, Try.results48, go_sem, z2, r0', r1']) rfl (GRes.nil HR.out ((HB2.out.setCell (by show _ ≤ w.heap.size + 1; omega) _).setCell (by show _ ≤ w.heap.size + 1; omega) _))
  · have HX1 := Lib.hid hr1
    have HX2 := Lib.hid hr2
    have HX3 := Lib.hid hr3
    clear hr1 hr2 hr3 HC
    have hki : (k : Int) < (n : Int) := by omega
    go_wp2_with fail
    refine (HX.out _ (by omega)).mono ?_
    rintro e w2 ⟨rfl, hb2⟩
    obtain ⟨r0', r1', f0', f1'⟩ := HR1.out.below hb2
    have HB2 := Lib.hid (HB1.out.trans (hb2.mono HB1.out.size))
    have z2 : w.heap.size + 1 < w2.heap.size := cell_lt r0'
    have HG2 := Lib.hid (HG1.out.below hb2)
    have HI2 := Lib.hid (HI1.out.below hb2)
    have HR2 := Lib.hid (HR1.out.below hb2)
    clear g0 g1
    obtain ⟨g0, g1⟩ := HG2.out
    clear hb2 r0 r1 f0 f1 HX
    obtain ⟨bd, hbd⟩ : ∃ c, c = M.inB d 0 1000 := ⟨_, rfl⟩
    have HU : Hid (∀ W, Calls Try.prog 99 #[.int .i64 d, .int .i64 1000] W fun e w' => e = .returned (.bool bd) ∧ W = w') := fun W => by rw [hbd]; exact isUpTo d 1000 W
    rw [← hbd] at HX1 HX2
    clear hbd
    obtain ⟨bt, hbt⟩ : ∃ c, c = M.inB t 0 5 := ⟨_, rfl⟩
    have HV : Hid (∀ W, Calls Try.prog 99 #[.int .i64 t, .int .i64 5] W fun e w' => e = .returned (.bool bt) ∧ W = w') := fun W => by rw [hbt]; exact isUpTo t 5 W
    rw [← hbt] at HX1 HX3
    clear hbt
    cases bd with
    | false =>
      have HR := Lib.hid (HX2.out rfl)
      clear HX1 HX2 HX3
      go_wp2_with fail
      refine (HU.out _).mono ?_
      rintro e w' ⟨rfl, rfl⟩
      go_wp2
      exact bodyPost_ret (v := .tuple #[.agg #[.int .i64 0, .slice none 0 0], .int .i64 2]) (by simp [results, Try.results48, go_sem, z2, r0', r1']) rfl (GRes.nil HR.out ((HB2.out.setCell (by show _ ≤ w.heap.size + 1; omega) _).setCell (by show _ ≤ w.heap.size + 1; omega) _))
    | true =>
      cases bt with
      | false =>
        have HR := Lib.hid (HX3.out rfl)
        clear HX1 HX2 HX3
        go_wp2_with fail
        refine (HU.out _).mono ?_
        rintro e w' ⟨rfl, rfl⟩
        go_wp2_with fail
        refine (HV.out _).mono ?_
        rintro e w' ⟨rfl, rfl⟩
        go_wp2
        exact bodyPost_ret (v := .tuple #[.agg #[.int .i64 0, .slice none 0 0], .int .i64 2]) (by simp [results, Try.results48, go_sem, z2, r0', r1']) rfl (GRes.nil HR.out ((HB2.out.setCell (by show _ ≤ w.heap.size + 1; omega) _).setCell (by show _ ≤ w.heap.size + 1; omega) _))
      | true =>
        have HR := Lib.hid (HX1.out rfl rfl)
        clear HX1 HX2 HX3
        obtain ⟨b, off, -, -, -, -, rfl, -⟩ := HI2.out.at k (by omega)
        go_wp2_with fail
        refine (HU.out _).mono ?_
        rintro e w' ⟨rfl, rfl⟩
        go_wp2_with fail
        refine (HV.out _).mono ?_
        rintro e w' ⟨rfl, rfl⟩
        go_wp2_with fail
        refine (clonePl b off n cap l w2 HI2.out (by omega)).mono ?_
        rintro e w3 ⟨g, c, rfl, ho, hb⟩
        obtain ⟨g', o', p0, p1, p2, p3, hgg, hglt, -, c0, c1, c2, c3⟩ := ho.pls.at k (by omega)
        injection hgg with hgg
        injection hgg with e1 e2
        subst e1 e2
        simp only [Nat.zero_add] at c0 c1 c2 c3
        have hgB : w2.heap.size ≤ g := (ho.lt rfl).1
        have f2 := ho.frozenAt (k * 4 + 2)
        have f3 := ho.frozenAt (k * 4 + 3)
        have z3 := hb.size
        have hRne : w.heap.size + 1 ≠ g := by omega
        have HCh := Lib.hid (change g (k * 4) d t w3 ⟨_, c2⟩ ⟨_, c3⟩ f2 f3)
        have hbs : Below w2.heap.size w2 ((w3.setCell ⟨g, k * 4 + 2, none⟩ (.int .i64 d)).setCell ⟨g, k * 4 + 3, none⟩ (.int .i64 t)) :=
          (hb.setCell (p := ⟨g, k * 4 + 2, none⟩) hgB _).setCell (p := ⟨g, k * 4 + 3, none⟩) hgB _
        have ho4 := (ho.setF d (i := k) (j := 2) (by omega) (by omega)).setF t (i := k) (j := 3) (by omega) (by omega)
        clear ho c0 c1 c2 c3 f2 f3
        go_wp2_with fail
        refine (HCh.out).mono ?_
        rintro e w4 ⟨rfl, hw4⟩
        rw [← hw4] at hbs ho4
        have HR4 := Lib.hid (HR2.out.below hbs)
        have HB4 := Lib.hid (HB2.out.trans (hbs.mono HB2.out.size))
        have z4 := hbs.size
        have HO4 := Lib.hid ho4
        clear g0 g1 r0' r1' f0' f1'
        obtain ⟨g0, g1⟩ := HG2.out.below hbs
        clear hbs hw4 ho4 HCh hb
        go_wp2_with fail
        refine (withPl x (some ⟨b, off, none⟩) n cap (some ⟨g, 0, none⟩) n c w4).mono ?_
        rintro e w5 ⟨rfl, hb5⟩
        have HO5 := Lib.hid (HO4.out.below hb5)
        have HB5 := Lib.hid (HB4.out.trans (hb5.mono HB4.out.size))
        obtain ⟨r0, r1, f0, f1⟩ := HR4.out.below hb5
        have z5 : w.heap.size + 1 < w5.heap.size := cell_lt r0
        have HO6 : Hid (OwnPl ((w5.setCell ⟨w.heap.size + 1, 0, none⟩ (.int .i64 x)).setCell ⟨w.heap.size + 1, 1, none⟩ (.slice (some ⟨g, 0, none⟩) n c)) w.heap.size (.slice (some ⟨g, 0, none⟩) n c) (M.stF (M.stF l k 2 d) k 3 t)) := by
          refine (HO5.out.keepB fun q hq => ?_).mono (by omega)
          simp [Value.ownBlock] at hq
          subst hq
          rw [Below.heap_setCell _ _ _ _ (by show g ≠ w.heap.size + 1; omega), Below.heap_setCell _ _ _ _ (by show g ≠ w.heap.size + 1; omega)]
        have HB6 := Lib.hid ((HB5.out.setCell (p := ⟨w.heap.size + 1, 0, none⟩) (by show _ ≤ w.heap.size + 1; omega) (.int .i64 x)).setCell (p := ⟨w.heap.size + 1, 1, none⟩) (by show _ ≤ w.heap.size + 1; omega) (.slice (some ⟨g, 0, none⟩) n c))
        clear hb5 g0 g1
        go_wp2
        rw [HR.out]
        exact bodyPost_ret (v := .tuple #[.agg #[.int .i64 x, .slice (some ⟨g, 0, none⟩) n c], .int .i64 0]) (by simp [results, Try.results48, go_sem, z5, hRne, r0, r1]) rfl ⟨_, _, _, rfl, HO6.out, HB6.out⟩
end V
end Go.Proofs.Ytobdgboejbbfiaa

namespace Go.Proofs.Ytobdgboejbbfiaa
namespace V
set_option maxRecDepth 100000
open Go.RowKit
set_option maxRecDepth 100000 in
set_option maxHeartbeats 1000000 in
theorem growPl (n : Nat) (w : World) (h0 : 0 < n) (hn : n ≤ 1000) :
    Calls Try.prog 129 #[.slice none 0 0, .int .i64 n] w fun e w' => ∃ c, e = .returned (.slice (some ⟨w.heap.size, 0, none⟩) 0 c) ∧ OwnPl w' w.heap.size (.slice (some ⟨w.heap.size, 0, none⟩) 0 c) [] ∧ Below w.heap.size w w' := by
  obtain ⟨i0, hi, hz0, hz1, hz2⟩ := infoP_parts
  have hge := grownCap_ge w n 0 35
  have hle := grownCap_le_maxLen w n 0 35 (by unfold maxLen; omega)
  have HGe := Lib.hid hge
  have HLe := Lib.hid hle
  have hrun := Lib.run_append_nil_zeros (P := Try.prog) w 24 3 24 35 i0 (.agg #[.int .i64 0, .int .i64 0, .int .i64 0, .int .i64 0]) .i64 .i64 Try.underlying24 Try.underlying3 hi hz0 n h0 (by rw [hz1]; decide) (by omega) (by rw [hz2]; omega)
  have HR := Lib.hid hrun
  have hn1 : ¬ (n : Int) < 0 := by omega
  have hn2 : (n : Int) > 0 := by omega
  clear hrun hi hge hle
  go_enter Try.func129, Try.ntmps129
  go_wp2_with (at_builtin; refine Lib.wpList_append_run _ rfl (.tmp 20) (.tmp 21) 24 3 rfl _ _ rfl rfl _ _ HR.out ?_)
  generalize grownCap w n 0 35 = cc at *
  go_wp2
  go_ret
  refine ⟨cc, rfl, ?_, ?_⟩
  · refine ⟨rfl, .inr ⟨w.heap.size, cc, _, rfl, Nat.le_refl _, heap_alloc_new (w.drew) _, Nat.zero_le _, HLe.out, ?_, by simp [pcells]⟩⟩
    have := HGe.out
    simp [Builtin.zeroCells]
    omega
  · exact (Below.refl _ _).drew.alloc (Nat.le_refl _) _
theorem ckP {w w' : World} {b o : Nat} {v : Value} (h : w.cell? ⟨b, o, none⟩ = some v) (hb : Below w.heap.size w w') : w'.cell? ⟨b, o, none⟩ = some v :=
  (hb.cell (p := ⟨b, o, none⟩) (cell_lt h)).trans h
set_option maxRecDepth 100000 in
set_option maxHeartbeats 2000000 in
theorem concatPl (b g1 o1 n1 c1 g2 o2 n2 c2 : Nat) (x y : List M.Pc) (w : World) (hx : Pls w (some ⟨g1, o1, none⟩) n1 x) (hy : Pls w (some ⟨g2, o2, none⟩) n2 y)
    (hc0 : w.cell? ⟨b, 0, none⟩ = some (.slice (some ⟨g1, o1, none⟩) n1 c1)) (hc1 : w.cell? ⟨b, 1, none⟩ = some (.slice (some ⟨g2, o2, none⟩) n2 c2)) (h0 : 0 < n1 + n2) (hn : n1 + n2 ≤ 1000) :
    Calls Try.prog 104 #[.slice (some ⟨b, 0, none⟩) 2 2] w fun e w' => ∃ g cc, e = .returned (.slice (some ⟨g, 0, none⟩) (n1 + n2) cc) ∧ OwnPl w' w.heap.size (.slice (some ⟨g, 0, none⟩) (n1 + n2) cc) (x ++ y) ∧ Below w.heap.size w w' := by
  have HX := Lib.hid hx
  have HY := Lib.hid hy
  have HLx : Hid (x.length = n1) := hx.1
  have HLy : Hid (y.length = n2) := hy.1
  have HC0 : Hid (∀ w', Below w.heap.size w w' → w'.cell? ⟨b, 0, none⟩ = some (.slice (some ⟨g1, o1, none⟩) n1 c1)) := fun w' hb => ckP hc0 hb
  have HC1 : Hid (∀ w', Below w.heap.size w w' → w'.cell? ⟨b, 1, none⟩ = some (.slice (some ⟨g2, o2, none⟩) n2 c2)) := fun w' hb => ckP hc1 hb
  clear hx hy
  go_enter Try.func104, Try.ntmps104
  go_wp2
  go_loop [3, 11] (fun sv iv => (iv = .int .i64 0 ∧ sv = .int .i64 0) ∨ (iv = .int .i64 1 ∧ sv = .int .i64 n1) ∨ (iv = .int .i64 2 ∧ sv = .int .i64 ((n1 + n2 : Nat) : Int))) (fun _ iv => 2 - (intOf iv).toNat)
  case atStart => exact .inl ⟨rfl, rfl⟩
  case round =>
    have k1 : ¬ (n1 : Int) < 0 := by omega
    have k2 : ¬ (n1 : Int) + (n2 : Int) < 0 := by omega
    rcases hrel with ⟨rfl, rfl⟩ | ⟨rfl, rfl⟩ | ⟨rfl, rfl⟩
    · go_wp2
      go_round
      case rel => exact .inr (.inl ⟨rfl, by go_num⟩)
      case measure => simp [intOf]
    · go_wp2
      go_round
      case rel => exact .inr (.inr ⟨rfl, by go_num⟩)
      case measure => simp [intOf]
    · go_wp2_with fail
      refine (growPl (n1 + n2) _ h0 hn).mono ?_
      rintro e w1 ⟨c, rfl, ho, hb⟩
      have HO := Lib.hid ho
      have HB := Lib.hid hb
      clear ho hb hc0 hc1
      go_wp2
      go_loopw [6, 27] (fun v iv wr => Hid (Below w.heap.size w wr) ∧ ((iv = .int .i64 0 ∧ v = .slice (some ⟨w.heap.size, 0, none⟩) 0 c ∧ Hid (OwnPl wr w.heap.size v [])) ∨ (iv = .int .i64 1 ∧ ∃ b4 c4, v = .slice (some ⟨b4, 0, none⟩) n1 c4 ∧ Hid (OwnPl wr w.heap.size v x)) ∨ (iv = .int .i64 2 ∧ ∃ b4 c4, v = .slice (some ⟨b4, 0, none⟩) (n1 + n2) c4 ∧ Hid (OwnPl wr w.heap.size v (x ++ y))))) (fun _ iv _ => 2 - (intOf iv).toNat)
      case atStart => exact ⟨HB, .inl ⟨rfl, rfl, HO⟩⟩
      case round =>
        obtain ⟨HBr, ⟨rfl, rfl, HOr⟩ | ⟨rfl, b4, c4, rfl, HOr⟩ | ⟨rfl, b4, c4, rfl, HOr⟩⟩ := hrel
        · have hd0 := HC0.out _ HBr.out
          have HXr := Lib.hid (HX.out.below HBr.out)
          go_wp2_with (at_builtin; refine appendPl _ rfl (.tmp 31) (.tmp 32) rfl w.heap.size (.slice (some ⟨w.heap.size, 0, none⟩) 0 c) [] x 0 n1 g1 o1 c1 rfl rfl HOr.out (by simp) rfl HXr.out (by omega) HBr.out.size ?_)
          rintro v5 w5 ⟨g5, c5, rfl, ho5, hb5, -, -⟩
          have HO5 : Hid (OwnPl w5 w.heap.size (.slice (some ⟨g5, 0, none⟩) n1 c5) x) := ho5
          have HB5 := Lib.hid (HBr.out.trans hb5)
          clear ho5 hb5 hd0
          go_wp2
          go_roundw
          case rel => exact ⟨HB5, .inr (.inl ⟨rfl, _, _, by first | rfl | (rw [Nat.zero_add]), HO5⟩)⟩
          case measure => simp [intOf]
        · have hd1 := HC1.out _ HBr.out
          have HYr := Lib.hid (HY.out.below HBr.out)
          go_wp2_with (at_builtin; refine appendPl _ rfl (.tmp 31) (.tmp 32) rfl w.heap.size (.slice (some ⟨b4, 0, none⟩) n1 c4) x y n1 n2 g2 o2 c2 HLx.out rfl HOr.out (by simp) rfl HYr.out (by omega) HBr.out.size ?_)
          rintro v5 w5 ⟨g5, c5, rfl, ho5, hb5, -, -⟩
          have HO5 := Lib.hid ho5
          have HB5 := Lib.hid (HBr.out.trans hb5)
          clear ho5 hb5 hd1
          go_wp2
          go_roundw
          case rel => exact ⟨HB5, .inr (.inr ⟨rfl, _, _, rfl, HO5⟩)⟩
          case measure => simp [intOf]
        · go_wp2
          go_ret
          exact ⟨_, _, rfl, HOr.out, HBr.out⟩
end V
end Go.Proofs.Ytobdgboejbbfiaa

namespace Go.Proofs.Ytobdgboejbbfiaa
namespace M
def dropRes (e : Int) (l : List Pc) (i : Int) : Int × List Pc × Int := if isGr e l then (if inB i 0 ((l.length : Int) - 1) then (e, l.take i.toNat ++ l.drop (i.toNat + 1), 0) else (0, [], 2)) else (0, [], 1)
theorem dropRes_len (e : Int) (l : List Pc) (i : Int) : (dropRes e l i).2.1.length ≤ 30 := by
  unfold dropRes
  cases h : isGr e l with
  | false => simp
  | true =>
    have := (isGr_in h).2
    cases h2 : inB i 0 ((l.length : Int) - 1) with
    | false => simp
    | true => simp; omega
theorem drop_cases (e : Int) (l : List Pc) (i : Int) :
    (isGr e l = false ∧ ixCode e l i = 1 ∧ dropRes e l i = (0, [], 1)) ∨ (isGr e l = true ∧ l.length ≤ 30 ∧ inB i 0 ((l.length : Int) - 1) = false ∧ ixCode e l i = 2 ∧ dropRes e l i = (0, [], 2)) ∨
    (∃ k : Nat, i = k ∧ k < l.length ∧ l.length ≤ 30 ∧ isGr e l = true ∧ inB i 0 ((l.length : Int) - 1) = true ∧ ixCode e l i = 0 ∧ dropRes e l i = (e, l.take k ++ l.drop (k + 1), 0)) := by
  unfold ixCode dropRes
  cases h : isGr e l with
  | false => exact .inl ⟨rfl, rfl, rfl⟩
  | true =>
    refine .inr ?_
    cases h2 : inB i 0 ((l.length : Int) - 1) with
    | false => exact .inl ⟨rfl, (isGr_in h).2, rfl, rfl, rfl⟩
    | true =>
      refine .inr ?_
      have h3 := h2
      unfold inB at h3
      simp at h3
      exact ⟨i.toNat, by omega, by omega, (isGr_in h).2, rfl, rfl, rfl, rfl⟩
end M
namespace V
set_option maxRecDepth 100000
open Go.RowKit
theorem Pls.take {w : World} {a : Option Addr} {n : Nat} {l : List M.Pc} (h : Pls w a n l) {k : Nat} (hk : k ≤ n) : Pls w a k (l.take k) := by
  obtain ⟨h1, h2, h3⟩ := h
  refine ⟨by rw [List.length_take]; omega, by omega, ?_⟩
  rcases h3 with h3 | ⟨b, off, rfl, hlt, hc⟩
  · exact .inl (by omega)
  · refine .inr ⟨b, off, rfl, hlt, fun i hi => ?_⟩
    rw [List.getD_eq_getElem?_getD, List.getElem?_take_of_lt hi, ← List.getD_eq_getElem?_getD]
    exact hc i (by omega)
theorem Pls.drop {w : World} {b off n : Nat} {l : List M.Pc} (h : Pls w (some ⟨b, off, none⟩) n l) {k : Nat} (hk : k ≤ n) : Pls w (some ⟨b, off + k * 4, none⟩) (n - k) (l.drop k) := by
  obtain ⟨h1, h2, h3⟩ := h
  refine ⟨by rw [List.length_drop]; omega, by omega, ?_⟩
  rcases h3 with h3 | ⟨b', off', e, hlt, hc⟩
  · exact .inl (by omega)
  · injection e with e
    injection e with e1 e2
    subst e1 e2
    refine .inr ⟨b, off + k * 4, rfl, hlt, fun i hi => ?_⟩
    rw [List.getD_eq_getElem?_getD, List.getElem?_drop, ← List.getD_eq_getElem?_getD]
    have := hc (k + i) (by omega)
    rw [show off + (k + i) * 4 = off + k * 4 + i * 4 by omega] at this
    exact this
set_option maxRecDepth 100000 in
set_option maxHeartbeats 2000000 in
theorem sDropPlace (x : Int) (a : Option Addr) (n cap : Nat) (l : List M.Pc) (i : Int) (w : World) (h : Pls w a n l) (hcap : n ≤ cap) (hcap2 : cap ≤ 1048576) :
    Calls Try.prog 52 #[.agg #[.int .i64 x, .slice a n cap], .int .i64 i] w (GRes (M.dropRes x l i) w) := by
  have HI := Lib.hid h
  have hl : l.length = n := h.1
  have hb0 := b_alloc2 w (.cells #[.int .i64 x, .slice a n cap] 26) (.cells #[.int .i64 0, .slice none 0 0] 26)
  have hG : GBox ((w.alloc (.cells #[.int .i64 x, .slice a n cap] 26)).alloc (.cells #[.int .i64 0, .slice none 0 0] 26)) w.heap.size x a n cap := (gBox_new w x a n cap 26).below (b_alloc _ _)
  have hR : ResG ((w.alloc (.cells #[.int .i64 x, .slice a n cap] 26)).alloc (.cells #[.int .i64 0, .slice none 0 0] 26)) (w.heap.size + 1) := by
    have := resG_new (w.alloc (.cells #[.int .i64 x, .slice a n cap] 26)) 26
    rwa [World.size_alloc] at this
  obtain ⟨wb, hwb⟩ : ∃ z, z = (w.alloc (.cells #[.int .i64 x, .slice a n cap] 26)).alloc (.cells #[.int .i64 0, .slice none 0 0] 26) := ⟨_, rfl⟩
  rw [← hwb] at hb0 hG hR
  have HS := Lib.hid (sIndex x a n cap l i wb (h.below hb0))
  have HG := Lib.hid hG
  have HRs := Lib.hid hR
  have HB0 := Lib.hid hb0
  obtain ⟨r, hr⟩ : ∃ r, r = M.dropRes x l i := ⟨_, rfl⟩
  have HC := Lib.hid (M.drop_cases x l i)
  obtain ⟨cd, hcd⟩ : ∃ c, c = M.ixCode x l i := ⟨_, rfl⟩
  rw [← hr] at HC ⊢
  rw [← hcd] at HC HS
  clear h hG hb0 hR hr hcd
  go_enter Try.func52, Try.ntmps52
  go_wp2_with fail
  rw [← hwb]
  clear hwb
  refine (HS.out).mono ?_
  rintro e w1 ⟨rfl, hb1⟩
  have HB1 := Lib.hid (HB0.out.trans (hb1.mono HB0.out.size))
  have HI1 := Lib.hid (HI.out.below HB1.out)
  obtain ⟨g0, g1⟩ := HG.out.below hb1
  have HR1 := Lib.hid (HRs.out.below hb1)
  obtain ⟨r0, r1, f0, f1⟩ := HR1.out
  have z1 : w.heap.size + 1 < w1.heap.size := cell_lt r0
  clear hb1 HS
  rcases HC.out with ⟨-, rfl, hr⟩ | ⟨-, h30, -, rfl, hr⟩ | ⟨k, rfl, hk, h30, -, -, rfl, hr⟩
  · have HR := Lib.hid hr
    clear hr HC
    go_wp2
    exact bodyPost_ret (v := .tuple #[.agg #[.int .i64 0, .slice none 0 0], .int .i64 1]) (by simp [results, Try.results52, go_sem, z1, r0, r1]) rfl (GRes.nil HR.out ((HB1.out.setCell (by show _ ≤ w.heap.size + 1; omega) _).setCell (by show _ ≤ w.heap.size + 1; omega) _))
  · have HR := Lib.hid hr
    clear hr HC
    go_wp2
    exact bodyPost_ret (v := .tuple #[.agg #[.int .i64 0, .slice none 0 0], .int .i64 2]) (by simp [results, Try.results52, go_sem, z1, r0, r1]) rfl (GRes.nil HR.out ((HB1.out.setCell (by show _ ≤ w.heap.size + 1; omega) _).setCell (by show _ ≤ w.heap.size + 1; omega) _))
  · have HR := Lib.hid hr
    clear hr HC
    have hki : (k : Int) < (n : Int) := by omega
    have hkc : k ≤ cap := by omega
    have hkc2 : (k : Int) ≤ (cap : Int) := by omega
    obtain ⟨b, off, -, -, -, -, rfl, -⟩ := HI1.out.at k (by omega)
    have HIt := Lib.hid (HI1.out.take (k := k) (by omega))
    have HId := Lib.hid (HI1.out.drop (k := k + 1) (by omega))
    have HO : Hid (OwnPl ((w1.alloc (.cells #[] 35)).drew) w1.heap.size (.slice (some ⟨w1.heap.size, 0, none⟩) 0 0) []) := ownPl_lit0 w1 w1.heap.size (Nat.le_refl _)
    have HB3 : Hid (Below w1.heap.size w1 ((w1.alloc (.cells #[] 35)).drew)) := (b_alloc w1 _).drew
    have hl1 : (l.take k).length = k := by rw [List.length_take]; omega
    have hwr : IntKind.i64.wrap ((k : Int) + 1) = ((k + 1 : Nat) : Int) := by rw [IntKind.wrap_i64]; omega
    obtain ⟨o2, hif, hp2⟩ : ∃ o2, (if cap = k + 1 then some (⟨b, off, none⟩ : Addr) else some ⟨b, off + (k + 1) * 4, none⟩) = some ⟨b, o2, none⟩ ∧ Pls w1 (some ⟨b, o2, none⟩) (n - (k + 1)) (l.drop (k + 1)) := by
      by_cases q : cap = k + 1
      · rw [if_pos q]
        exact ⟨off, rfl, by rw [List.length_drop]; omega, by have := HI1.out.2.1; omega, .inl (by omega)⟩
      · rw [if_neg q]
        exact ⟨_, rfl, HId.out⟩
    have HP2 := Lib.hid hp2
    have hk0 : (0 : Int) ≤ (k : Int) + 1 := by omega
    have hk1n : (k : Int) + 1 ≤ (n : Int) := by omega
    have hk1c : (k : Int) + 1 ≤ (cap : Int) := by omega
    clear hp2
    have HB0 : Hid (GBox w1 w.heap.size x (some ⟨b, off, none⟩) n cap ∧ ResG w1 (w.heap.size + 1)) := ⟨⟨g0, g1⟩, HR1.out⟩
    obtain ⟨ga0, ga1⟩ := HB0.out.1.below (b_alloc w1 (.cells #[] 35))
    go_wp2
    go_region_law (first
      | (refine step_appendPl _ rfl (.tmp 16) (.tmp 20) rfl w1.heap.size (.slice (some ⟨w1.heap.size, 0, none⟩) 0 0) [] (l.take k) 0 k b off cap rfl rfl HO.out (by simp) rfl (HIt.out.below HB3.out) (by omega) (HB3.out.size) ?_; intro v' w2 hA; obtain ⟨g, c, hv, ho, hb, hfr, hat⟩ := hA; subst hv; have HBb := Lib.hid (HB3.out.trans hb); have HOa : Hid (OwnPl w2 w1.heap.size (.slice (some ⟨g, 0, none⟩) k c) (l.take k)) := (by have := ho; simp only [List.nil_append, Nat.zero_add] at this; exact this); obtain ⟨c0, c1⟩ := HB0.out.1.below HBb.out; skip)
      | (refine step_appendPl _ rfl (.tmp 21) (.tmp 26) rfl w1.heap.size (.slice (some ⟨g, 0, none⟩) k c) (l.take k) (l.drop (k + 1)) k (n - (k + 1)) b o2 (cap - (k + 1)) hl1 rfl HOa.out (by simp) rfl (HP2.out.below HBb.out) (by omega) (HBb.out.size) ?_; intro v' w3 hA; obtain ⟨g', c', hv, ho, hb, -, -⟩ := hA; subst hv; have HBc := Lib.hid (HBb.out.trans hb); have HOc := Lib.hid ho; obtain ⟨cc0, cc1⟩ := HB0.out.1.below HBc.out; obtain ⟨rr0, rr1, ff0, ff1⟩ := HB0.out.2.below HBc.out)
      | (trace_state; fail))
    all_goals
      have hg' : w1.heap.size ≤ g' := (HOc.out.lt rfl).1
      have z3 := HBc.out.size
      have HO6 : Hid (OwnPl ((w3.setCell ⟨w.heap.size + 1, 0, none⟩ (.int .i64 x)).setCell ⟨w.heap.size + 1, 1, none⟩ (.slice (some ⟨g', 0, none⟩) (k + (n - (k + 1))) c')) w.heap.size (.slice (some ⟨g', 0, none⟩) (k + (n - (k + 1))) c') (l.take k ++ l.drop (k + 1))) := by
        refine (HOc.out.keepB fun q hq => ?_).mono (by omega)
        simp [Value.ownBlock] at hq
        subst hq
        rw [Below.heap_setCell _ _ _ _ (by show g' ≠ w.heap.size + 1; omega), Below.heap_setCell _ _ _ _ (by show g' ≠ w.heap.size + 1; omega)]
      have HB6 := Lib.hid (((HB1.out.trans (HBc.out.mono HB1.out.size)).setCell (p := ⟨w.heap.size + 1, 0, none⟩) (by show _ ≤ w.heap.size + 1; omega) (.int .i64 x)).setCell (p := ⟨w.heap.size + 1, 1, none⟩) (by show _ ≤ w.heap.size + 1; omega) (.slice (some ⟨g', 0, none⟩) (k + (n - (k + 1))) c'))
      have z5 : w.heap.size + 1 < w3.heap.size := by omega
      go_wp2
      rw [HR.out]
      exact bodyPost_ret (v := .tuple #[.agg #[.int .i64 x, .slice (some ⟨g', 0, none⟩) (k + (n - (k + 1))) c'], .int .i64 0]) (by simp [results, Try.results52, go_sem, z5, rr0, rr1]) rfl ⟨_, _, _, rfl, HO6.out, HB6.out⟩
end V
end Go.Proofs.Ytobdgboejbbfiaa

namespace Go.Proofs.Ytobdgboejbbfiaa
namespace V
set_option maxRecDepth 100000
open Go.RowKit
theorem run_append_zero (w : World) (base : Option Addr) (n c : Nat) (p : Option Addr) (c2 : Nat) (hnc : n ≤ c) (ty : TypeId) :
    (Builtin.append_ #[24, 24] ty #[.slice base n c, .slice p 0 c2]).run Try.prog w = .ok (.slice base n c) w := by
  obtain ⟨i0, hi, hz0, hz1, hz2⟩ := infoP_parts
  have ht := Try.underlying24
  cases p with
  | none =>
    cases base with
    | none => simp [Builtin.append_, run_underlying ht, sizeOf, typeInfo, zeroValue, hi, hz0, Builtin.lenOf, hnc, Question.forced, run_firstCells_none, storeCells]
    | some b => simp [Builtin.append_, run_underlying ht, sizeOf, typeInfo, zeroValue, hi, hz0, Builtin.lenOf, hnc, Question.forced, run_firstCells_none, storeCells]
  | some a =>
    have hf := run_firstCells_some (P := Try.prog) w i0.size 0 a 0 c2 [] (by simp) (by simp)
    cases base with
    | none => simp [Builtin.append_, run_underlying ht, sizeOf, typeInfo, zeroValue, hi, hz0, Builtin.lenOf, hnc, Question.forced, hf, storeCells]
    | some b => simp [Builtin.append_, run_underlying ht, sizeOf, typeInfo, zeroValue, hi, hz0, Builtin.lenOf, hnc, Question.forced, hf, storeCells]
set_option maxRecDepth 100000 in
set_option maxHeartbeats 2000000 in
theorem concatPl0 (b : Nat) (p1 p2 : Option Addr) (c1 c2 : Nat) (w : World)
    (hc0 : w.cell? ⟨b, 0, none⟩ = some (.slice p1 0 c1)) (hc1 : w.cell? ⟨b, 1, none⟩ = some (.slice p2 0 c2)) :
    Calls Try.prog 104 #[.slice (some ⟨b, 0, none⟩) 2 2] w fun e w' => e = .returned (.slice none 0 0) ∧ Below w.heap.size w w' := by
  have HB : Hid (Below w.heap.size w w) := Below.refl _ _
  go_enter Try.func104, Try.ntmps104
  go_wp2
  go_loop [3, 11] (fun sv iv => sv = .int .i64 0 ∧ (iv = .int .i64 0 ∨ iv = .int .i64 1 ∨ iv = .int .i64 2)) (fun _ iv => 2 - (intOf iv).toNat)
  case atStart => exact ⟨rfl, .inl rfl⟩
  case round =>
    obtain ⟨rfl, rfl | rfl | rfl⟩ := hrel
    · go_wp2
      go_round
      case rel => exact ⟨by go_num, .inr (.inl rfl)⟩
      case measure => simp [intOf]
    · go_wp2
      go_round
      case rel => exact ⟨by go_num, .inr (.inr rfl)⟩
      case measure => simp [intOf]
    · go_wp2
      go_loop [6, 27] (fun v iv => v = .slice none 0 0 ∧ (iv = .int .i64 0 ∨ iv = .int .i64 1 ∨ iv = .int .i64 2)) (fun _ iv => 2 - (intOf iv).toNat)
      case atStart => exact ⟨rfl, .inl rfl⟩
      case round =>
        obtain ⟨rfl, rfl | rfl | rfl⟩ := hrel
        · go_wp2_with (at_builtin; refine Lib.wpList_append_run _ rfl (.tmp 31) (.tmp 32) 24 24 rfl _ _ rfl rfl _ _ (run_append_zero w none 0 0 p1 c1 (Nat.le_refl _) _) ?_)
          go_wp2
          go_round
          case rel => exact ⟨rfl, .inr (.inl rfl)⟩
          case measure => simp [intOf]
        · go_wp2_with (at_builtin; refine Lib.wpList_append_run _ rfl (.tmp 31) (.tmp 32) 24 24 rfl _ _ rfl rfl _ _ (run_append_zero w none 0 0 p2 c2 (Nat.le_refl _) _) ?_)
          go_wp2
          go_round
          case rel => exact ⟨rfl, .inr (.inr rfl)⟩
          case measure => simp [intOf]
        · go_wp2
          go_ret
          exact ⟨rfl, HB.out⟩
theorem concatAny (b g1 o1 n1 c1 g2 o2 n2 c2 : Nat) (x y : List M.Pc) (w : World) (hx : Pls w (some ⟨g1, o1, none⟩) n1 x) (hy : Pls w (some ⟨g2, o2, none⟩) n2 y)
    (hc0 : w.cell? ⟨b, 0, none⟩ = some (.slice (some ⟨g1, o1, none⟩) n1 c1)) (hc1 : w.cell? ⟨b, 1, none⟩ = some (.slice (some ⟨g2, o2, none⟩) n2 c2)) (hn : n1 + n2 ≤ 1000) :
    Calls Try.prog 104 #[.slice (some ⟨b, 0, none⟩) 2 2] w fun e w' => ∃ a cc, e = .returned (.slice a (n1 + n2) cc) ∧ OwnPl w' w.heap.size (.slice a (n1 + n2) cc) (x ++ y) ∧ Below w.heap.size w w' := by
  rcases Nat.eq_zero_or_pos (n1 + n2) with h | h
  · obtain ⟨rfl, rfl⟩ : n1 = 0 ∧ n2 = 0 := by omega
    obtain rfl : x = [] := List.eq_nil_of_length_eq_zero hx.1
    obtain rfl : y = [] := List.eq_nil_of_length_eq_zero hy.1
    refine (concatPl0 b _ _ c1 c2 w hc0 hc1).mono ?_
    rintro e w' ⟨rfl, hb⟩
    exact ⟨none, 0, rfl, ownPl_nil _ _, hb⟩
  · refine (concatPl b g1 o1 n1 c1 g2 o2 n2 c2 x y w hx hy hc0 hc1 h hn).mono ?_
    rintro e w' ⟨g, cc, rfl, ho, hb⟩
    exact ⟨_, _, rfl, ho, hb⟩
end V
end Go.Proofs.Ytobdgboejbbfiaa

namespace Go.Proofs.Ytobdgboejbbfiaa
namespace V
set_option maxRecDepth 100000
open Go.RowKit
set_option maxRecDepth 100000 in
set_option maxHeartbeats 2000000 in
theorem dropPlace (x : Int) (a : Option Addr) (n cap : Nat) (l : List M.Pc) (i : Int) (w : World) (h : Pls w a n l) (hcap : n ≤ cap) (hcap2 : cap ≤ 1048576) :
    Calls Try.prog 51 #[.agg #[.int .i64 x, .slice a n cap], .int .i64 i] w (GRes (M.dropRes x l i) w) := by
  have HI := Lib.hid h
  have hl : l.length = n := h.1
  have hb0 := b_alloc2 w (.cells #[.int .i64 x, .slice a n cap] 26) (.cells #[.int .i64 0, .slice none 0 0] 26)
  have hG : GBox ((w.alloc (.cells #[.int .i64 x, .slice a n cap] 26)).alloc (.cells #[.int .i64 0, .slice none 0 0] 26)) w.heap.size x a n cap := (gBox_new w x a n cap 26).below (b_alloc _ _)
  have hR : ResG ((w.alloc (.cells #[.int .i64 x, .slice a n cap] 26)).alloc (.cells #[.int .i64 0, .slice none 0 0] 26)) (w.heap.size + 1) := by
    have := resG_new (w.alloc (.cells #[.int .i64 x, .slice a n cap] 26)) 26
    rwa [World.size_alloc] at this
  obtain ⟨wb, hwb⟩ : ∃ z, z = (w.alloc (.cells #[.int .i64 x, .slice a n cap] 26)).alloc (.cells #[.int .i64 0, .slice none 0 0] 26) := ⟨_, rfl⟩
  rw [← hwb] at hb0 hG hR
  have HS := Lib.hid (isEventGraph x a n cap l wb (h.below hb0))
  have HG := Lib.hid hG
  have HRs := Lib.hid hR
  have HB0 := Lib.hid hb0
  obtain ⟨r, hr⟩ : ∃ r, r = M.dropRes x l i := ⟨_, rfl⟩
  have HC := Lib.hid (M.drop_cases x l i)
  obtain ⟨b0, hb0'⟩ : ∃ c, c = M.isGr x l := ⟨_, rfl⟩
  rw [← hr] at HC ⊢
  rw [← hb0', hl] at HC
  rw [← hb0'] at HS
  have HX : Hid (∀ W, n ≤ 1048576 → Calls Try.prog 90 #[.agg #[.int .i64 x, .slice a n cap], .int .i64 i] W fun e w' => e = .returned (.bool (M.inB i 0 ((n : Int) - 1))) ∧ Below W.heap.size W w') := fun W hn => hasIndex x a n cap i W hn
  obtain ⟨b1, hb1'⟩ : ∃ c, c = M.inB i 0 ((n : Int) - 1) := ⟨_, rfl⟩
  rw [← hb1'] at HC HX
  have hmx := h.2.1
  clear h hG hb0 hR hr hb0' hb1'
  go_enter Try.func51, Try.ntmps51
  go_wp2_with fail
  rw [← hwb]
  clear hwb
  refine (HS.out).mono ?_
  rintro e w1 ⟨rfl, hb1⟩
  have HB1 := Lib.hid (HB0.out.trans (hb1.mono HB0.out.size))
  have HI1 := Lib.hid (HI.out.below HB1.out)
  have HG1 := Lib.hid (HG.out.below hb1)
  obtain ⟨g0, g1⟩ := HG1.out
  have HR1 := Lib.hid (HRs.out.below hb1)
  obtain ⟨r0, r1, f0, f1⟩ := HR1.out
  have z1 : w.heap.size + 1 < w1.heap.size := cell_lt r0
  clear hb1 HS
  rcases HC.out with ⟨rfl, -, hr⟩ | ⟨rfl, h30, rfl, -, hr⟩ | ⟨k, rfl, hk, h30, rfl, rfl, -, hr⟩
  · have HR := Lib.hid hr
    clear hr HC
    go_wp2
    exact bodyPost_ret (v := .tuple #[.agg #[.int .i64 0, .slice none 0 0], .int .i64 1]) (by simp [results, Try.results51, go_sem, z1, r0, r1]) rfl (GRes.nil HR.out ((HB1.out.setCell (by show _ ≤ w.heap.size + 1; omega) _).setCell (by show _ ≤ w.heap.size + 1; omega) _))
  · have HR := Lib.hid hr
    clear hr HC
    go_wp2_with fail
    refine (HX.out _ (by omega)).mono ?_
    rintro e w2 ⟨rfl, hb2⟩
    obtain ⟨r0', r1', f0', f1'⟩ := HR1.out.below hb2
    have HB2 := Lib.hid (HB1.out.trans (hb2.mono HB1.out.size))
    have z2 : w.heap.size + 1 < w2.heap.size := cell_lt r0'
    clear hb2 r0 r1 f0 f1 HX
    go_wp2
    exact bodyPost_ret (v := .tuple #[.agg #[.int .i64 0, .slice none 0 0], .int .i64 2]) (by simp [results, Try.results51, go_sem, z2, r0', r1']) rfl (GRes.nil HR.out ((HB2.out.setCell (by show _ ≤ w.heap.size + 1; omega) _).setCell (by show _ ≤ w.heap.size + 1; omega) _))
  · have HR := Lib.hid hr
    clear hr HC
    have hki : (k : Int) < (n : Int) := by omega
    have hkc : k ≤ cap := by omega
    have hkc2 : (k : Int) ≤ (cap : Int) := by omega
    go_wp2_with fail
    refine (HX.out _ (by omega)).mono ?_
    rintro e w2 ⟨rfl, hb2⟩
    have HB2 := Lib.hid (HB1.out.trans (hb2.mono HB1.out.size))
    have HBox : Hid (GBox w2 w.heap.size x a n cap ∧ ResG w2 (w.heap.size + 1)) := ⟨HG1.out.below hb2, HR1.out.below hb2⟩
    have HI2 := Lib.hid (HI1.out.below hb2)
    clear g0 g1
    obtain ⟨g0, g1⟩ := HBox.out.1
    have z2 : w.heap.size + 1 < w2.heap.size := cell_lt HBox.out.2.1
    clear hb2 r0 r1 f0 f1 HX
    obtain ⟨b, off, -, -, -, -, rfl, -⟩ := HI2.out.at k (by omega)
    have HIt := Lib.hid (HI2.out.take (k := k) (by omega))
    have HId := Lib.hid (HI2.out.drop (k := k + 1) (by omega))
    have hwr : IntKind.i64.wrap ((k : Int) + 1) = ((k + 1 : Nat) : Int) := by rw [IntKind.wrap_i64]; omega
    obtain ⟨o2, hif, hp2⟩ : ∃ o2, (if cap = k + 1 then some (⟨b, off, none⟩ : Addr) else some ⟨b, off + (k + 1) * 4, none⟩) = some ⟨b, o2, none⟩ ∧ Pls w2 (some ⟨b, o2, none⟩) (n - (k + 1)) (l.drop (k + 1)) := by
      by_cases q : cap = k + 1
      · rw [if_pos q]
        exact ⟨off, rfl, by rw [List.length_drop]; omega, by have := HI2.out.2.1; omega, .inl (by omega)⟩
      · rw [if_neg q]
        exact ⟨_, rfl, HId.out⟩
    have HP2 := Lib.hid hp2
    have hk0 : (0 : Int) ≤ (k : Int) + 1 := by omega
    have hk1n : (k : Int) + 1 ≤ (n : Int) := by omega
    have hk1c : (k : Int) + 1 ≤ (cap : Int) := by omega
    clear hp2
    have hb9 := b_alloc w2 (.cells #[.slice (some ⟨b, off, none⟩) k cap, .slice (some ⟨b, o2, none⟩) (n - (k + 1)) (cap - (k + 1))] 24)
    obtain ⟨ga0, ga1⟩ := HBox.out.1.below hb9
    have HBd : Hid (Below w2.heap.size w2 ((w2.alloc (.cells #[.slice (some ⟨b, off, none⟩) k cap, .slice (some ⟨b, o2, none⟩) (n - (k + 1)) (cap - (k + 1))] 24)).drew)) := hb9.drew
    clear hb9
    go_wp2
    go_region_with (first
      | (go_at_call 104; refine (concatAny w2.heap.size b off k cap b o2 (n - (k + 1)) (cap - (k + 1)) (l.take k) (l.drop (k + 1)) _ (HIt.out.below HBd.out) (HP2.out.below HBd.out) (by simp [go_sem]) (by simp [go_sem]) (by omega)).mono ?_; rintro e w3 ⟨a3, c3, rfl, ho, hb⟩; have HBe := Lib.hid (HBd.out.trans (hb.mono HBd.out.size)); have HO3 := Lib.hid (ho.mono HBd.out.size); obtain ⟨c0, c1⟩ := HBox.out.1.below HBe.out)
      | (go_at_call 102; refine (withPl x (some ⟨b, off, none⟩) n cap a3 (k + (n - (k + 1))) c3 _).mono ?_; rintro e w4 ⟨rfl, hb4⟩; have HBf := Lib.hid (HBe.out.trans (hb4.mono HBe.out.size)); have HO4 := Lib.hid (HO3.out.below hb4); obtain ⟨rr0, rr1, ff0, ff1⟩ := HBox.out.2.below HBf.out))
    all_goals
      have z4 := HBf.out.size
      have HO6 : Hid (OwnPl ((w4.setCell ⟨w.heap.size + 1, 0, none⟩ (.int .i64 x)).setCell ⟨w.heap.size + 1, 1, none⟩ (.slice a3 (k + (n - (k + 1))) c3)) w.heap.size (.slice a3 (k + (n - (k + 1))) c3) (l.take k ++ l.drop (k + 1))) := by
        refine (HO4.out.keepB fun q hq => ?_).mono (by omega)
        have := (HO4.out.lt hq).1
        rw [Below.heap_setCell _ _ _ _ (by show q ≠ w.heap.size + 1; omega), Below.heap_setCell _ _ _ _ (by show q ≠ w.heap.size + 1; omega)]
      have HB6 := Lib.hid (((HB2.out.trans (HBf.out.mono HB2.out.size)).setCell (p := ⟨w.heap.size + 1, 0, none⟩) (by show _ ≤ w.heap.size + 1; omega) (.int .i64 x)).setCell (p := ⟨w.heap.size + 1, 1, none⟩) (by show _ ≤ w.heap.size + 1; omega) (.slice a3 (k + (n - (k + 1))) c3))
      have z5 : w.heap.size + 1 < w4.heap.size := by omega
      go_wp2
      rw [HR.out]
      exact bodyPost_ret (v := .tuple #[.agg #[.int .i64 x, .slice a3 (k + (n - (k + 1))) c3], .int .i64 0]) (by simp [results, Try.results51, go_sem, z5, rr0, rr1]) rfl ⟨_, _, _, rfl, HO6.out, HB6.out⟩
end V
end Go.Proofs.Ytobdgboejbbfiaa
