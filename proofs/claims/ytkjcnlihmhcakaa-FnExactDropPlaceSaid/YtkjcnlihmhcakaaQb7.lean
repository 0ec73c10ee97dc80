/- Texts laid together: Grj, Grk, Grl, Grm. -/
import Derived.Test.YtkjcnlihmhcakaaQb6
import Derived.Lib.AppendZeros
set_option linter.unusedSimpArgs false
set_option linter.unusedVariables false
set_option linter.unusedSectionVars false
namespace Go.Proofs.Ytkjcnlihmhcakaa
namespace V
set_option maxRecDepth 100000
open Go.RowKit
set_option maxRecDepth 100000 in
set_option maxHeartbeats 1000000 in
theorem growPl (n : Nat) (w : World) (h0 : 0 < n) (hn : n ≤ 1000) :
    Calls Try.prog 76 #[.slice none 0 0, .int .i64 n] w fun e w' => ∃ c, e = .returned (.slice (some ⟨w.heap.size, 0, none⟩) 0 c) ∧ OwnPl w' w.heap.size (.slice (some ⟨w.heap.size, 0, none⟩) 0 c) [] ∧ Below w.heap.size w w' := by
  obtain ⟨i0, hi, hz0, hz1, hz2⟩ := infoP_parts
  have hge := grownCap_ge w n 0 39
  have hle := grownCap_le_maxLen w n 0 39 (by unfold maxLen; omega)
  have HGe := Lib.hid hge
  have HLe := Lib.hid hle
  have hrun := Lib.run_append_nil_zeros (P := Try.prog) w 24 3 24 39 i0 (.agg #[.int .i64 0, .int .i64 0, .int .i64 0, .int .i64 0]) .i64 .i64 Try.underlying24 Try.underlying3 hi hz0 n h0 (by rw [hz1]; decide) (by omega) (by rw [hz2]; omega)
  have HR := Lib.hid hrun
  have hn1 : ¬ (n : Int) < 0 := by omega
  have hn2 : (n : Int) > 0 := by omega
  clear hrun hi hge hle
  go_enter Try.func76, Try.ntmps76
  go_wp2_with (at_builtin; refine Lib.wpList_append_run _ rfl (.tmp 20) (.tmp 21) 24 3 rfl _ _ rfl rfl _ _ HR.out ?_)
  generalize grownCap w n 0 39 = cc at *
  go_wp2
  go_ret
  refine ⟨cc, rfl, ?_, ?_⟩
  · refine ⟨rfl, .inr ⟨w.heap.size, cc, _, rfl, Nat.le_refl _, heap_alloc_new (w.drew) _, Nat.zero_le _, HLe.out, ?_, by simp [pcells]⟩⟩
    have := HGe.out
    simp [Builtin.zeroCells]
    omega
  · exact (Below.refl _ _).drew.alloc (Nat.le_refl _) _
theorem ckP {w w' : World} {b o : Nat} {v : Value} (h : w.cell? ⟨b, o, none⟩ = some v) (hb : Below w.heap.size w w') : w'.cell? ⟨b, o, none⟩ = some v :=
  (hb.cell (p := ⟨b, o, none⟩) (cell_lt h)).trans h
set_option maxRecDepth 100000 in
set_option maxHeartbeats 2000000 in
theorem concatPl (b g1 o1 n1 c1 g2 o2 n2 c2 : Nat) (x y : List M.Pc) (w : World) (hx : Pls w (some ⟨g1, o1, none⟩) n1 x) (hy : Pls w (some ⟨g2, o2, none⟩) n2 y)
    (hc0 : w.cell? ⟨b, 0, none⟩ = some (.slice (some ⟨g1, o1, none⟩) n1 c1)) (hc1 : w.cell? ⟨b, 1, none⟩ = some (.slice (some ⟨g2, o2, none⟩) n2 c2)) (h0 : 0 < n1 + n2) (hn : n1 + n2 ≤ 1000) :
    Calls Try.prog 58 #[.slice (some ⟨b, 0, none⟩) 2 2] w fun e w' => ∃ g cc, e = .returned (.slice (some ⟨g, 0, none⟩) (n1 + n2) cc) ∧ OwnPl w' w.heap.size (.slice (some ⟨g, 0, none⟩) (n1 + n2) cc) (x ++ y) ∧ Below w.heap.size w w' := by
  have HX := Lib.hid hx
  have HY := Lib.hid hy
  have HLx : Hid (x.length = n1) := hx.1
  have HLy : Hid (y.length = n2) := hy.1
  have HC0 : Hid (∀ w', Below w.heap.size w w' → w'.cell? ⟨b, 0, none⟩ = some (.slice (some ⟨g1, o1, none⟩) n1 c1)) := fun w' hb => ckP hc0 hb
  have HC1 : Hid (∀ w', Below w.heap.size w w' → w'.cell? ⟨b, 1, none⟩ = some (.slice (some ⟨g2, o2, none⟩) n2 c2)) := fun w' hb => ckP hc1 hb
  clear hx hy
  go_enter Try.func58, Try.ntmps58
  go_wp2
  go_loop [3, 11] (fun sv iv => (iv = .int .i64 0 ∧ sv = .int .i64 0) ∨ (iv = .int .i64 1 ∧ sv = .int .i64 n1) ∨ (iv = .int .i64 2 ∧ sv = .int .i64 ((n1 + n2 : Nat) : Int))) (fun _ iv => 2 - (intOf iv).toNat)
  case atStart => exact .inl ⟨rfl, rfl⟩
  case round =>
    have k1 : ¬ (n1 : Int) < 0 := by omega
    have k2 : ¬ (n1 : Int) + (n2 : Int) < 0 := by omega
    rcases hrel with ⟨rfl, rfl⟩ | ⟨rfl, rfl⟩ | ⟨rfl, rfl⟩
    · go_wp2
      go_round
      case rel => exact .inr (.inl ⟨rfl, by go_num⟩)
      case measure => simp [intOf]
    · go_wp2
      go_round
      case rel => exact .inr (.inr ⟨rfl, by go_num⟩)
      case measure => simp [intOf]
    · go_wp2_with fail
      refine (growPl (n1 + n2) _ h0 hn).mono ?_
      rintro e w1 ⟨c, rfl, ho, hb⟩
      have HO := Lib.hid ho
      have HB := Lib.hid hb
      clear ho hb hc0 hc1
      go_wp2
      go_loopw [6, 27] (fun v iv wr => Hid (Below w.heap.size w wr) ∧ ((iv = .int .i64 0 ∧ v = .slice (some ⟨w.heap.size, 0, none⟩) 0 c ∧ Hid (OwnPl wr w.heap.size v [])) ∨ (iv = .int .i64 1 ∧ ∃ b4 c4, v = .slice (some ⟨b4, 0, none⟩) n1 c4 ∧ Hid (OwnPl wr w.heap.size v x)) ∨ (iv = .int .i64 2 ∧ ∃ b4 c4, v = .slice (some ⟨b4, 0, none⟩) (n1 + n2) c4 ∧ Hid (OwnPl wr w.heap.size v (x ++ y))))) (fun _ iv _ => 2 - (intOf iv).toNat)
      case atStart => exact ⟨HB, .inl ⟨rfl, rfl, HO⟩⟩
      case round =>
        obtain ⟨HBr, ⟨rfl, rfl, HOr⟩ | ⟨rfl, b4, c4, rfl, HOr⟩ | ⟨rfl, b4, c4, rfl, HOr⟩⟩ := hrel
        · have hd0 := HC0.out _ HBr.out
          have HXr := Lib.hid (HX.out.below HBr.out)
          go_wp2_with (at_builtin; refine appendPl _ rfl (.tmp 31) (.tmp 32) rfl w.heap.size (.slice (some ⟨w.heap.size, 0, none⟩) 0 c) [] x 0 n1 g1 o1 c1 rfl rfl HOr.out (by simp) rfl HXr.out (by omega) HBr.out.size ?_)
          rintro v5 w5 ⟨g5, c5, rfl, ho5, hb5, -, -⟩
          have HO5 : Hid (OwnPl w5 w.heap.size (.slice (some ⟨g5, 0, none⟩) n1 c5) x) := ho5
          have HB5 := Lib.hid (HBr.out.trans hb5)
          clear ho5 hb5 hd0
          go_wp2
          go_roundw
          case rel => exact ⟨HB5, .inr (.inl ⟨rfl, _, _, by first | rfl | (rw [Nat.zero_add]), HO5⟩)⟩
          case measure => simp [intOf]
        · have hd1 := HC1.out _ HBr.out
          have HYr := Lib.hid (HY.out.below HBr.out)
          go_wp2_with (at_builtin; refine appendPl _ rfl (.tmp 31) (.tmp 32) rfl w.heap.size (.slice (some ⟨b4, 0, none⟩) n1 c4) x y n1 n2 g2 o2 c2 HLx.out rfl HOr.out (by simp) rfl HYr.out (by omega) HBr.out.size ?_)
          rintro v5 w5 ⟨g5, c5, rfl, ho5, hb5, -, -⟩
          have HO5 := Lib.hid ho5
          have HB5 := Lib.hid (HBr.out.trans hb5)
          clear ho5 hb5 hd1
          go_wp2
          go_roundw
          case rel => exact ⟨HB5, .inr (.inr ⟨rfl, _, _, rfl, HO5⟩)⟩
          case measure => simp [intOf]
        · go_wp2
          go_ret
          exact ⟨_, _, rfl, HOr.out, HBr.out⟩
end V
end Go.Proofs.Ytkjcnlihmhcakaa

namespace Go.Proofs.Ytkjcnlihmhcakaa
namespace M
def dropRes (e : Int) (l : List Pc) (i : Int) : Int × List Pc × Int := if isGr e l then (if inB i 0 ((l.length : Int) - 1) then (e, l.take i.toNat ++ l.drop (i.toNat + 1), 0) else (0, [], 2)) else (0, [], 1)
theorem dropRes_len (e : Int) (l : List Pc) (i : Int) : (dropRes e l i).2.1.length ≤ 30 := by
  unfold dropRes
  cases h : isGr e l with
  | false => simp
  | true =>
    have := (isGr_in h).2
    cases h2 : inB i 0 ((l.length : Int) - 1) with
    | false => simp
    | true => simp; omega
theorem drop_cases (e : Int) (l : List Pc) (i : Int) :
    (isGr e l = false ∧ ixCode e l i = 1 ∧ dropRes e l i = (0, [], 1)) ∨ (isGr e l = true ∧ l.length ≤ 30 ∧ inB i 0 ((l.length : Int) - 1) = false ∧ ixCode e l i = 2 ∧ dropRes e l i = (0, [], 2)) ∨
    (∃ k : Nat, i = k ∧ k < l.length ∧ l.length ≤ 30 ∧ isGr e l = true ∧ inB i 0 ((l.length : Int) - 1) = true ∧ ixCode e l i = 0 ∧ dropRes e l i = (e, l.take k ++ l.drop (k + 1), 0)) := by
  unfold ixCode dropRes
  cases h : isGr e l with
  | false => exact .inl ⟨rfl, rfl, rfl⟩
  | true =>
    refine .inr ?_
    cases h2 : inB i 0 ((l.length : Int) - 1) with
    | false => exact .inl ⟨rfl, (isGr_in h).2, rfl, rfl, rfl⟩
    | true =>
      refine .inr ?_
      have h3 := h2
      unfold inB at h3
      simp at h3
      exact ⟨i.toNat, by omega, by omega, (isGr_in h).2, rfl, rfl, rfl, rfl⟩
end M
namespace V
set_option maxRecDepth 100000
open Go.RowKit
theorem Pls.take {w : World} {a : Option Addr} {n : Nat} {l : List M.Pc} (h : Pls w a n l) {k : Nat} (hk : k ≤ n) : Pls w a k (l.take k) := by
  obtain ⟨h1, h2, h3⟩ := h
  refine ⟨by rw [List.length_take]; omega, by omega, ?_⟩
  rcases h3 with h3 | ⟨b, off, rfl, hlt, hc⟩
  · exact .inl (by omega)
  · refine .inr ⟨b, off, rfl, hlt, fun i hi => ?_⟩
    rw [List.getD_eq_getElem?_getD, List.getElem?_take_of_lt hi, ← List.getD_eq_getElem?_getD]
    exact hc i (by omega)
theorem Pls.drop {w : World} {b off n : Nat} {l : List M.Pc} (h : Pls w (some ⟨b, off, none⟩) n l) {k : Nat} (hk : k ≤ n) : Pls w (some ⟨b, off + k * 4, none⟩) (n - k) (l.drop k) := by
  obtain ⟨h1, h2, h3⟩ := h
  refine ⟨by rw [List.length_drop]; omega, by omega, ?_⟩
  rcases h3 with h3 | ⟨b', off', e, hlt, hc⟩
  · exact .inl (by omega)
  · injection e with e
    injection e with e1 e2
    subst e1 e2
    refine .inr ⟨b, off + k * 4, rfl, hlt, fun i hi => ?_⟩
    rw [List.getD_eq_getElem?_getD, List.getElem?_drop, ← List.getD_eq_getElem?_getD]
    have := hc (k + i) (by omega)
    rw [show off + (k + i) * 4 = off + k * 4 + i * 4 by omega] at this
    exact this
set_option maxRecDepth 100000 in
set_option maxHeartbeats 2000000 in
theorem sDropPlace (x : Int) (a : Option Addr) (n cap : Nat) (l : List M.Pc) (i : Int) (w : World) (h : Pls w a n l) (hcap : n ≤ cap) (hcap2 : cap ≤ 1048576) :
    Calls Try.prog 22 #[.agg #[.int .i64 x, .slice a n cap], .int .i64 i] w (GRes (M.dropRes x l i) w) := by
  have HI := Lib.hid h
  have hl : l.length = n := h.1
  have hb0 := b_alloc2 w (.cells #[.int .i64 x, .slice a n cap] 26) (.cells #[.int .i64 0, .slice none 0 0] 26)
  have hG : GBox ((w.alloc (.cells #[.int .i64 x, .slice a n cap] 26)).alloc (.cells #[.int .i64 0, .slice none 0 0] 26)) w.heap.size x a n cap := (gBox_new w x a n cap 26).below (b_alloc _ _)
  have hR : ResG ((w.alloc (.cells #[.int .i64 x, .slice a n cap] 26)).alloc (.cells #[.int .i64 0, .slice none 0 0] 26)) (w.heap.size + 1) := by
    have := resG_new (w.alloc (.cells #[.int .i64 x, .slice a n cap] 26)) 26
    rwa [World.size_alloc] at this
  obtain ⟨wb, hwb⟩ : ∃ z, z = (w.alloc (.cells #[.int .i64 x, .slice a n cap] 26)).alloc (.cells #[.int .i64 0, .slice none 0 0] 26) := ⟨_, rfl⟩
  rw [← hwb] at hb0 hG hR
  have HS := Lib.hid (sIndex x a n cap l i wb (h.below hb0))
  have HG := Lib.hid hG
  have HRs := Lib.hid hR
  have HB0 := Lib.hid hb0
  obtain ⟨r, hr⟩ : ∃ r, r = M.dropRes x l i := ⟨_, rfl⟩
  have HC := Lib.hid (M.drop_cases x l i)
  obtain ⟨cd, hcd⟩ : ∃ c, c = M.ixCode x l i := ⟨_, rfl⟩
  rw [← hr] at HC ⊢
  rw [← hcd] at HC HS
  clear h hG hb0 hR hr hcd
  go_enter Try.func22, Try.ntmps22
  go_wp2_with fail
  rw [← hwb]
  clear hwb
  refine (HS.out).mono ?_
  rintro e w1 ⟨rfl, hb1⟩
  have HB1 := Lib.hid (HB0.out.trans (hb1.mono HB0.out.size))
  have HI1 := Lib.hid (HI.out.below HB1.out)
  obtain ⟨g0, g1⟩ := HG.out.below hb1
  have HR1 := Lib.hid (HRs.out.below hb1)
  obtain ⟨r0, r1, f0, f1⟩ := HR1.out
  have z1 : w.heap.size + 1 < w1.heap.size := cell_lt r0
  clear hb1 HS
  rcases HC.out with ⟨-, rfl, hr⟩ | ⟨-, h30, -, rfl, hr⟩ | ⟨k, rfl, hk, h30, -, -, rfl, hr⟩
  · have HR := Lib.hid hr
    clear hr HC
    go_wp2
    exact bodyPost_ret (v := .tuple #[.agg #[.int .i64 0, .slice none 0 0], .int .i64 1]) (by simp [results, Try.results22, go_sem, z1, r0, r1]) rfl (GRes.nil HR.out ((HB1.out.setCell (by show _ ≤ w.heap.size + 1; omega) _).setCell (by show _ ≤ w.heap.size + 1; omega) _))
  · have HR := Lib.hid hr
    clear hr HC
    go_wp2
    exact bodyPost_ret (v := .tuple #[.agg #[.int .i64 0, .slice none 0 0], .int .i64 2]) (by simp [results, Try.results22, go_sem, z1, r0, r1]) rfl (GRes.nil HR.out ((HB1.out.setCell (by show _ ≤ w.heap.size + 1; omega) _).setCell (by show _ ≤ w.heap.size + 1; omega) _))
  · have HR := Lib.hid hr
    clear hr HC
    have hki : (k : Int) < (n : Int) := by omega
    have hkc : k ≤ cap := by omega
    have hkc2 : (k : Int) ≤ (cap : Int) := by omega
    obtain ⟨b, off, -, -, -, -, rfl, -⟩ := HI1.out.at k (by omega)
    have HIt := Lib.hid (HI1.out.take (k := k) (by omega))
    have HId := Lib.hid (HI1.out.drop (k := k + 1) (by omega))
    have HO : Hid (OwnPl ((w1.alloc (.cells #[] 39)).drew) w1.heap.size (.slice (some ⟨w1.heap.size, 0, none⟩) 0 0) []) := ownPl_lit0 w1 w1.heap.size (Nat.le_refl _)
    have HB3 : Hid (Below w1.heap.size w1 ((w1.alloc (.cells #[] 39)).drew)) := (b_alloc w1 _).drew
    have hl1 : (l.take k).length = k := by rw [List.length_take]; omega
    have hwr : IntKind.i64.wrap ((k : Int) + 1) = ((k + 1 : Nat) : Int) := by rw [IntKind.wrap_i64]; omega
    obtain ⟨o2, hif, hp2⟩ : ∃ o2, (if cap = k + 1 then some (⟨b, off, none⟩ : Addr) else some ⟨b, off + (k + 1) * 4, none⟩) = some ⟨b, o2, none⟩ ∧ Pls w1 (some ⟨b, o2, none⟩) (n - (k + 1)) (l.drop (k + 1)) := by
      by_cases q : cap = k + 1
      · rw [if_pos q]
        exact ⟨off, rfl, by rw [List.length_drop]; omega, by have := HI1.out.2.1; omega, .inl (by omega)⟩
      · rw [if_neg q]
        exact ⟨_, rfl, HId.out⟩
    have HP2 := Lib.hid hp2
    have hk0 : (0 : Int) ≤ (k : Int) + 1 := by omega
    have hk1n : (k : Int) + 1 ≤ (n : Int) := by omega
    have hk1c : (k : Int) + 1 ≤ (cap : Int) := by omega
    clear hp2
    have HB0 : Hid (GBox w1 w.heap.size x (some ⟨b, off, none⟩) n cap ∧ ResG w1 (w.heap.size + 1)) := ⟨⟨g0, g1⟩, HR1.out⟩
    obtain ⟨ga0, ga1⟩ := HB0.out.1.below (b_alloc w1 (.cells #[] 39))
    go_wp2
    go_region_law (first
      | (refine step_appendPl _ rfl (.tmp 16) (.tmp 20) rfl w1.heap.size (.slice (some ⟨w1.heap.size, 0, none⟩) 0 0) [] (l.take k) 0 k b off cap rfl rfl HO.out (by simp) rfl (HIt.out.below HB3.out) (by omega) (HB3.out.size) ?_; intro v' w2 hA; obtain ⟨g, c, hv, ho, hb, hfr, hat⟩ := hA; subst hv; have HBb := Lib.hid (HB3.out.trans hb); have HOa : Hid (OwnPl w2 w1.heap.size (.slice (some ⟨g, 0, none⟩) k c) (l.take k)) := (by have := ho; simp only [List.nil_append, Nat.zero_add] at this; exact this); obtain ⟨c0, c1⟩ := HB0.out.1.below HBb.out; skip)
      | (refine step_appendPl _ rfl (.tmp 21) (.tmp 26) rfl w1.heap.size (.slice (some ⟨g, 0, none⟩) k c) (l.take k) (l.drop (k + 1)) k (n - (k + 1)) b o2 (cap - (k + 1)) hl1 rfl HOa.out (by simp) rfl (HP2.out.below HBb.out) (by omega) (HBb.out.size) ?_; intro v' w3 hA; obtain ⟨g', c', hv, ho, hb, -, -⟩ := hA; subst hv; have HBc := Lib.hid (HBb.out.trans hb); have HOc := Lib.hid ho; obtain ⟨cc0, cc1⟩ := HB0.out.1.below HBc.out; obtain ⟨rr0, rr1, ff0, ff1⟩ := HB0.out.2.below HBc.out)
      | (trace_state; fail))
    all_goals
      have hg' : w1.heap.size ≤ g' := (HOc.out.lt rfl).1
      have z3 := HBc.out.size
      have HO6 : Hid (OwnPl ((w3.setCell ⟨w.heap.size + 1, 0, none⟩ (.int .i64 x)).setCell ⟨w.heap.size + 1, 1, none⟩ (.slice (some ⟨g', 0, none⟩) (k + (n - (k + 1))) c')) w.heap.size (.slice (some ⟨g', 0, none⟩) (k + (n - (k + 1))) c') (l.take k ++ l.drop (k + 1))) := by
        refine (HOc.out.keepB fun q hq => ?_).mono (by omega)
        simp [Value.ownBlock] at hq
        subst hq
        rw [Below.heap_setCell _ _ _ _ (by show g' ≠ w.heap.size + 1; omega), Below.heap_setCell _ _ _ _ (by show g' ≠ w.heap.size + 1; omega)]
      have HB6 := Lib.hid (((HB1.out.trans (HBc.out.mono HB1.out.size)).setCell (p := ⟨w.heap.size + 1, 0, none⟩) (by show _ ≤ w.heap.size + 1; omega) (.int .i64 x)).setCell (p := ⟨w.heap.size + 1, 1, none⟩) (by show _ ≤ w.heap.size + 1; omega) (.slice (some ⟨g', 0, none⟩) (k + (n - (k + 1))) c'))
      have z5 : w.heap.size + 1 < w3.heap.size := by omega
      go_wp2
      rw [HR.out]
      exact bodyPost_ret (v := .tuple #[.agg #[.int .i64 x, .slice (some ⟨g', 0, none⟩) (k + (n - (k + 1))) c'], .int .i64 0]) (by simp [results, Try.results22, go_sem, z5, rr0, rr1]) rfl ⟨_, _, _, rfl, HO6.out, HB6.out⟩
end V
end Go.Proofs.Ytkjcnlihmhcakaa

namespace Go.Proofs.Ytkjcnlihmhcakaa
namespace V
set_option maxRecDepth 100000
open Go.RowKit
theorem run_append_zero (w : World) (base : Option Addr) (n c : Nat) (p : Option Addr) (c2 : Nat) (hnc : n ≤ c) (ty : TypeId) :
    (Builtin.append_ #[24, 24] ty #[.slice base n c, .slice p 0 c2]).run Try.prog w = .ok (.slice base n c) w := by
  obtain ⟨i0, hi, hz0, hz1, hz2⟩ := infoP_parts
  have ht := Try.underlying24
  cases p with
  | none =>
    cases base with
    | none => simp [Builtin.append_, run_underlying ht, sizeOf, typeInfo, zeroValue, hi, hz0, Builtin.lenOf, hnc, Question.forced, run_firstCells_none, storeCells]
    | some b => simp [Builtin.append_, run_underlying ht, sizeOf, typeInfo, zeroValue, hi, hz0, Builtin.lenOf, hnc, Question.forced, run_firstCells_none, storeCells]
  | some a =>
    have hf := run_firstCells_some (P := Try.prog) w i0.size 0 a 0 c2 [] (by simp) (by simp)
    cases base with
    | none => simp [Builtin.append_, run_underlying ht, sizeOf, typeInfo, zeroValue, hi, hz0, Builtin.lenOf, hnc, Question.forced, hf, storeCells]
    | some b => simp [Builtin.append_, run_underlying ht, sizeOf, typeInfo, zeroValue, hi, hz0, Builtin.lenOf, hnc, Question.forced, hf, storeCells]
set_option maxRecDepth 100000 in
set_option maxHeartbeats 2000000 in
theorem concatPl0 (b : Nat) (p1 p2 : Option Addr) (c1 c2 : Nat) (w : World)
    (hc0 : w.cell? ⟨b, 0, none⟩ = some (.slice p1 0 c1)) (hc1 : w.cell? ⟨b, 1, none⟩ = some (.slice p2 0 c2)) :
    Calls Try.prog 58 #[.slice (some ⟨b, 0, none⟩) 2 2] w fun e w' => e = .returned (.slice none 0 0) ∧ Below w.heap.size w w' := by
  have HB : Hid (Below w.heap.size w w) := Below.refl _ _
  go_enter Try.func58, Try.ntmps58
  go_wp2
  go_loop [3, 11] (fun sv iv => sv = .int .i64 0 ∧ (iv = .int .i64 0 ∨ iv = .int .i64 1 ∨ iv = .int .i64 2)) (fun _ iv => 2 - (intOf iv).toNat)
  case atStart => exact ⟨rfl, .inl rfl⟩
  case round =>
    obtain ⟨rfl, rfl | rfl | rfl⟩ := hrel
    · go_wp2
      go_round
      case rel => exact ⟨by go_num, .inr (.inl rfl)⟩
      case measure => simp [intOf]
    · go_wp2
      go_round
      case rel => exact ⟨by go_num, .inr (.inr rfl)⟩
      case measure => simp [intOf]
    · go_wp2
      go_loop [6, 27] (fun v iv => v = .slice none 0 0 ∧ (iv = .int .i64 0 ∨ iv = .int .i64 1 ∨ iv = .int .i64 2)) (fun _ iv => 2 - (intOf iv).toNat)
      case atStart => exact ⟨rfl, .inl rfl⟩
      case round =>
        obtain ⟨rfl, rfl | rfl | rfl⟩ := hrel
        · go_wp2_with (at_builtin; refine Lib.wpList_append_run _ rfl (.tmp 31) (.tmp 32) 24 24 rfl _ _ rfl rfl _ _ (run_append_zero w none 0 0 p1 c1 (Nat.le_refl _) _) ?_)
          go_wp2
          go_round
          case rel => exact ⟨rfl, .inr (.inl rfl)⟩
          case measure => simp [intOf]
        · go_wp2_with (at_builtin; refine Lib.wpList_append_run _ rfl (.tmp 31) (.tmp 32) 24 24 rfl _ _ rfl rfl _ _ (run_append_zero w none 0 0 p2 c2 (Nat.le_refl _) _) ?_)
          go_wp2
          go_round
          case rel => exact ⟨rfl, .inr (.inr rfl)⟩
          case measure => simp [intOf]
        · go_wp2
          go_ret
          exact ⟨rfl, HB.out⟩
theorem concatAny (b g1 o1 n1 c1 g2 o2 n2 c2 : Nat) (x y : List M.Pc) (w : World) (hx : Pls w (some ⟨g1, o1, none⟩) n1 x) (hy : Pls w (some ⟨g2, o2, none⟩) n2 y)
    (hc0 : w.cell? ⟨b, 0, none⟩ = some (.slice (some ⟨g1, o1, none⟩) n1 c1)) (hc1 : w.cell? ⟨b, 1, none⟩ = some (.slice (some ⟨g2, o2, none⟩) n2 c2)) (hn : n1 + n2 ≤ 1000) :
    Calls Try.prog 58 #[.slice (some ⟨b, 0, none⟩) 2 2] w fun e w' => ∃ a cc, e = .returned (.slice a (n1 + n2) cc) ∧ OwnPl w' w.heap.size (.slice a (n1 + n2) cc) (x ++ y) ∧ Below w.heap.size w w' := by
  rcases Nat.eq_zero_or_pos (n1 + n2) with h | h
  · obtain ⟨rfl, rfl⟩ : n1 = 0 ∧ n2 = 0 := by omega
    obtain rfl : x = [] := List.eq_nil_of_length_eq_zero hx.1
    obtain rfl : y = [] := List.eq_nil_of_length_eq_zero hy.1
    refine (concatPl0 b _ _ c1 c2 w hc0 hc1).mono ?_
    rintro e w' ⟨rfl, hb⟩
    exact ⟨none, 0, rfl, ownPl_nil _ _, hb⟩
  · refine (concatPl b g1 o1 n1 c1 g2 o2 n2 c2 x y w hx hy hc0 hc1 h hn).mono ?_
    rintro e w' ⟨g, cc, rfl, ho, hb⟩
    exact ⟨_, _, rfl, ho, hb⟩
end V
end Go.Proofs.Ytkjcnlihmhcakaa

namespace Go.Proofs.Ytkjcnlihmhcakaa
namespace V
set_option maxRecDepth 100000
open Go.RowKit
set_option maxRecDepth 100000 in
set_option maxHeartbeats 2000000 in
theorem dropPlace (x : Int) (a : Option Addr) (n cap : Nat) (l : List M.Pc) (i : Int) (w : World) (h : Pls w a n l) (hcap : n ≤ cap) (hcap2 : cap ≤ 1048576) :
    Calls Try.prog 21 #[.agg #[.int .i64 x, .slice a n cap], .int .i64 i] w (GRes (M.dropRes x l i) w) := by
  have HI := Lib.hid h
  have hl : l.length = n := h.1
  have hb0 := b_alloc2 w (.cells #[.int .i64 x, .slice a n cap] 26) (.cells #[.int .i64 0, .slice none 0 0] 26)
  have hG : GBox ((w.alloc (.cells #[.int .i64 x, .slice a n cap] 26)).alloc (.cells #[.int .i64 0, .slice none 0 0] 26)) w.heap.size x a n cap := (gBox_new w x a n cap 26).below (b_alloc _ _)
  have hR : ResG ((w.alloc (.cells #[.int .i64 x, .slice a n cap] 26)).alloc (.cells #[.int .i64 0, .slice none 0 0] 26)) (w.heap.size + 1) := by
    have := resG_new (w.alloc (.cells #[.int .i64 x, .slice a n cap] 26)) 26
    rwa [World.size_alloc] at this
  obtain ⟨wb, hwb⟩ : ∃ z, z = (w.alloc (.cells #[.int .i64 x, .slice a n cap] 26)).alloc (.cells #[.int .i64 0, .slice none 0 0] 26) := ⟨_, rfl⟩
  rw [← hwb] at hb0 hG hR
  have HS := Lib.hid (isEventGraph x a n cap l wb (h.below hb0))
  have HG := Lib.hid hG
  have HRs := Lib.hid hR
  have HB0 := Lib.hid hb0
  obtain ⟨r, hr⟩ : ∃ r, r = M.dropRes x l i := ⟨_, rfl⟩
  have HC := Lib.hid (M.drop_cases x l i)
  obtain ⟨b0, hb0'⟩ : ∃ c, c = M.isGr x l := ⟨_, rfl⟩
  rw [← hr] at HC ⊢
  rw [← hb0', hl] at HC
  rw [← hb0'] at HS
  have HX : Hid (∀ W, n ≤ 1048576 → Calls Try.prog 50 #[.agg #[.int .i64 x, .slice a n cap], .int .i64 i] W fun e w' => e = .returned (.bool (M.inB i 0 ((n : Int) - 1))) ∧ Below W.heap.size W w') := fun W hn => hasIndex x a n cap i W hn
  obtain ⟨b1, hb1'⟩ : ∃ c, c = M.inB i 0 ((n : Int) - 1) := ⟨_, rfl⟩
  rw [← hb1'] at HC HX
  have hmx := h.2.1
  clear h hG hb0 hR hr hb0' hb1'
  go_enter Try.func21, Try.ntmps21
  go_wp2_with fail
  rw [← hwb]
  clear hwb
  refine (HS.out).mono ?_
  rintro e w1 ⟨rfl, hb1⟩
  have HB1 := Lib.hid (HB0.out.trans (hb1.mono HB0.out.size))
  have HI1 := Lib.hid (HI.out.below HB1.out)
  have HG1 := Lib.hid (HG.out.below hb1)
  obtain ⟨g0, g1⟩ := HG1.out
  have HR1 := Lib.hid (HRs.out.below hb1)
  obtain ⟨r0, r1, f0, f1⟩ := HR1.out
  have z1 : w.heap.size + 1 < w1.heap.size := cell_lt r0
  clear hb1 HS
  rcases HC.out with ⟨rfl, -, hr⟩ | ⟨rfl, h30, rfl, -, hr⟩ | ⟨k, rfl, hk, h30, rfl, rfl, -, hr⟩
  · have HR := Lib.hid hr
    clear hr HC
    go_wp2
    exact bodyPost_ret (v := .tuple #[.agg #[.int .i64 0, .slice none 0 0], .int .i64 1]) (by simp [results, Try.results21, go_sem, z1, r0, r1]) rfl (GRes.nil HR.out ((HB1.out.setCell (by show _ ≤ w.heap.size + 1; omega) _).setCell (by show _ ≤ w.heap.size + 1; omega) _))
  · have HR := Lib.hid hr
    clear hr HC
    go_wp2_with fail
    refine (HX.out _ (by omega)).mono ?_
    rintro e w2 ⟨rfl, hb2⟩
    obtain ⟨r0', r1', f0', f1'⟩ := HR1.out.below hb2
    have HB2 := Lib.hid (HB1.out.trans (hb2.mono HB1.out.size))
    have z2 : w.heap.size + 1 < w2.heap.size := cell_lt r0'
    clear hb2 r0 r1 f0 f1 HX
    go_wp2
    exact bodyPost_ret (v := .tuple #[.agg #[.int .i64 0, .slice none 0 0], .int .i64 2]) (by simp [results, Try.results21, go_sem, z2, r0', r1']) rfl (GRes.nil HR.out ((HB2.out.setCell (by show _ ≤ w.heap.size + 1; omega) _).setCell (by show _ ≤ w.heap.size + 1; omega) _))
  · have HR := Lib.hid hr
    clear hr HC
    have hki : (k : Int) < (n : Int) := by omega
    have hkc : k ≤ cap := by omega
    have hkc2 : (k : Int) ≤ (cap : Int) := by omega
    go_wp2_with fail
    refine (HX.out _ (by omega)).mono ?_
    rintro e w2 ⟨rfl, hb2⟩
    have HB2 := Lib.hid (HB1.out.trans (hb2.mono HB1.out.size))
    have HBox : Hid (GBox w2 w.heap.size x a n cap ∧ ResG w2 (w.heap.size + 1)) := ⟨HG1.out.below hb2, HR1.out.below hb2⟩
    have HI2 := Lib.hid (HI1.out.below hb2)
    clear g0 g1
    obtain ⟨g0, g1⟩ := HBox.out.1
    have z2 : w.heap.size + 1 < w2.heap.size := cell_lt HBox.out.2.1
    clear hb2 r0 r1 f0 f1 HX
    obtain ⟨b, off, -, -, -, -, rfl, -⟩ := HI2.out.at k (by omega)
    have HIt := Lib.hid (HI2.out.take (k := k) (by omega))
    have HId := Lib.hid (HI2.out.drop (k := k + 1) (by omega))
    have hwr : IntKind.i64.wrap ((k : Int) + 1) = ((k + 1 : Nat) : Int) := by rw [IntKind.wrap_i64]; omega
    obtain ⟨o2, hif, hp2⟩ : ∃ o2, (if cap = k + 1 then some (⟨b, off, none⟩ : Addr) else some ⟨b, off + (k + 1) * 4, none⟩) = some ⟨b, o2, none⟩ ∧ Pls w2 (some ⟨b, o2, none⟩) (n - (k + 1)) (l.drop (k + 1)) := by
      by_cases q : cap = k + 1
      · rw [if_pos q]
        exact ⟨off, rfl, by rw [List.length_drop]; omega, by have := HI2.out.2.1; omega, .inl (by omega)⟩
      · rw [if_neg q]
        exact ⟨_, rfl, HId.out⟩
    have HP2 := Lib.hid hp2
    have hk0 : (0 : Int) ≤ (k : Int) + 1 := by omega
    have hk1n : (k : Int) + 1 ≤ (n : Int) := by omega
    have hk1c : (k : Int) + 1 ≤ (cap : Int) := by omega
    clear hp2
    have hb9 := b_alloc w2 (.cells #[.slice (some ⟨b, off, none⟩) k cap, .slice (some ⟨b, o2, none⟩) (n - (k + 1)) (cap - (k + 1))] 24)
    obtain ⟨ga0, ga1⟩ := HBox.out.1.below hb9
    have HBd : Hid (Below w2.heap.size w2 ((w2.alloc (.cells #[.slice (some ⟨b, off, none⟩) k cap, .slice (some ⟨b, o2, none⟩) (n - (k + 1)) (cap - (k + 1))] 24)).drew)) := hb9.drew
    clear hb9
    go_wp2
    go_region_with (first
      | (go_at_call 58; refine (concatAny w2.heap.size b off k cap b o2 (n - (k + 1)) (cap - (k + 1)) (l.take k) (l.drop (k + 1)) _ (HIt.out.below HBd.out) (HP2.out.below HBd.out) (by simp [go_sem]) (by simp [go_sem]) (by omega)).mono ?_; rintro e w3 ⟨a3, c3, rfl, ho, hb⟩; have HBe := Lib.hid (HBd.out.trans (hb.mono HBd.out.size)); have HO3 := Lib.hid (ho.mono HBd.out.size); obtain ⟨c0, c1⟩ := HBox.out.1.below HBe.out)
      | (go_at_call 54; refine (withPl x (some ⟨b, off, none⟩) n cap a3 (k + (n - (k + 1))) c3 _).mono ?_; rintro e w4 ⟨rfl, hb4⟩; have HBf := Lib.hid (HBe.out.trans (hb4.mono HBe.out.size)); have HO4 := Lib.hid (HO3.out.below hb4); obtain ⟨rr0, rr1, ff0, ff1⟩ := HBox.out.2.below HBf.out))
    all_goals
      have z4 := HBf.out.size
      have HO6 : Hid (OwnPl ((w4.setCell ⟨w.heap.size + 1, 0, none⟩ (.int .i64 x)).setCell ⟨w.heap.size + 1, 1, none⟩ (.slice a3 (k + (n - (k + 1))) c3)) w.heap.size (.slice a3 (k + (n - (k + 1))) c3) (l.take k ++ l.drop (k + 1))) := by
        refine (HO4.out.keepB fun q hq => ?_).mono (by omega)
        have := (HO4.out.lt hq).1
        rw [Below.heap_setCell _ _ _ _ (by show q ≠ w.heap.size + 1; omega), Below.heap_setCell _ _ _ _ (by show q ≠ w.heap.size + 1; omega)]
      have HB6 := Lib.hid (((HB2.out.trans (HBf.out.mono HB2.out.size)).setCell (p := ⟨w.heap.size + 1, 0, none⟩) (by show _ ≤ w.heap.size + 1; omega) (.int .i64 x)).setCell (p := ⟨w.heap.size + 1, 1, none⟩) (by show _ ≤ w.heap.size + 1; omega) (.slice a3 (k + (n - (k + 1))) c3))
      have z5 : w.heap.size + 1 < w4.heap.size := by omega
      go_wp2
      rw [HR.out]
      exact bodyPost_ret (v := .tuple #[.agg #[.int .i64 x, .slice a3 (k + (n - (k + 1))) c3], .int .i64 0]) (by simp [results, Try.results21, go_sem, z5, rr0, rr1]) rfl ⟨_, _, _, rfl, HO6.out, HB6.out⟩
end V
end Go.Proofs.Ytkjcnlihmhcakaa
