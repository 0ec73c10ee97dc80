/- Texts laid together: Grk, Grl, Grm, Grn, Gro, Grp, Like, IMul2, SMul2, SAdd, Pth1. -/
import Derived.Test.YtphobmddkphofaaQa4
import Derived.Deep.RegionWith
import Derived.Deep.RegionHeld3
import Derived.Deep.DeepCutAuto
import Derived.Test.YtphobmddkphofaaRows
import Derived.Test.YtphobmddkphofaaQa1
import Derived.Test.YtphobmddkphofaaQa2
import Derived.WalkKit
import Derived.ProofKit
import Derived.WalkSmall
import Derived.Deep.QuietTactic
import Derived.BigQuiet
import Derived.BigRegion
import Derived.Deep.Draws
import Derived.Lib.Hide
import Derived.OpenShut
import Derived.Deep.OwnRows
import Derived.Test.YtphobmddkphofaaQa3
import Derived.StillTailTactics
set_option linter.unusedSimpArgs false
set_option linter.unusedVariables false
set_option linter.unusedSectionVars false
namespace Go.Proofs.Ytphobmddkphofaa
namespace M
def dropRes (e : Int) (l : List Pc) (i : Int) : Int × List Pc × Int := if isGr e l then (if inB i 0 ((l.length : Int) - 1) then (e, l.take i.toNat ++ l.drop (i.toNat + 1), 0) else (0, [], 2)) else (0, [], 1)
theorem dropRes_len (e : Int) (l : List Pc) (i : Int) : (dropRes e l i).2.1.length ≤ 30 := by
  unfold dropRes
  cases h : isGr e l with
  | false => simp
  | true =>
    have := (isGr_in h).2
    cases h2 : inB i 0 ((l.length : Int) - 1) with
    | false => simp
    | true => simp; omega
theorem drop_cases (e : Int) (l : List Pc) (i : Int) :
    (isGr e l = false ∧ ixCode e l i = 1 ∧ dropRes e l i = (0, [], 1)) ∨ (isGr e l = true ∧ l.length ≤ 30 ∧ inB i 0 ((l.length : Int) - 1) = false ∧ ixCode e l i = 2 ∧ dropRes e l i = (0, [], 2)) ∨
    (∃ k : Nat, i = k ∧ k < l.length ∧ l.length ≤ 30 ∧ isGr e l = true ∧ inB i 0 ((l.length : Int) - 1) = true ∧ ixCode e l i = 0 ∧ dropRes e l i = (e, l.take k ++ l.drop (k + 1), 0)) := by
  unfold ixCode dropRes
  cases h : isGr e l with
  | false => exact .inl ⟨rfl, rfl, rfl⟩
  | true =>
    refine .inr ?_
    cases h2 : inB i 0 ((l.length : Int) - 1) with
    | false => exact .inl ⟨rfl, (isGr_in h).2, rfl, rfl, rfl⟩
    | true =>
      refine .inr ?_
      have h3 := h2
      unfold inB at h3
      simp at h3
      exact ⟨i.toNat, by omega, by omega, (isGr_in h).2, rfl, rfl, rfl, rfl⟩
end M
namespace V
set_option maxRecDepth 100000
open Go.RowKit
theorem Pls.take {w : World} {a : Option Addr} {n : Nat} {l : List M.Pc} (h : Pls w a n l) {k : Nat} (hk : k ≤ n) : Pls w a k (l.take k) := by
  obtain ⟨h1, h2, h3⟩ := h
  refine ⟨by rw [List.length_take]; omega, by omega, ?_⟩
  rcases h3 with h3 | ⟨b, off, rfl, hlt, hc⟩
  · exact .inl (by omega)
  · refine .inr ⟨b, off, rfl, hlt, fun i hi => ?_⟩
    rw [List.getD_eq_getElem?_getD, List.getElem?_take_of_lt hi, ← List.getD_eq_getElem?_getD]
    exact hc i (by omega)
theorem Pls.drop {w : World} {b off n : Nat} {l : List M.Pc} (h : Pls w (some ⟨b, off, none⟩) n l) {k : Nat} (hk : k ≤ n) : Pls w (some ⟨b, off + k * 4, none⟩) (n - k) (l.drop k) := by
  obtain ⟨h1, h2, h3⟩ := h
  refine ⟨by rw [List.length_drop]; omega, by omega, ?_⟩
  rcases h3 with h3 | ⟨b', off', e, hlt, hc⟩
  · exact .inl (by omega)
  · injection e with e
    injection e with e1 e2
    subst e1 e2
    refine .inr ⟨b, off + k * 4, rfl, hlt, fun i hi => ?_⟩
    rw [List.getD_eq_getElem?_getD, List.getElem?_drop, ← List.getD_eq_getElem?_getD]
    have := hc (k + i) (by omega)
    rw [show off + (k + i) * 4 = off + k * 4 + i * 4 by omega] at this
    exact this
set_option maxRecDepth 100000 in
set_option maxHeartbeats 2000000 in
theorem sDropPlaceX (x : Int) (a : Option Addr) (n cap : Nat) (l : List M.Pc) (i : Int) (w : World) (h : Pls w a n l) (hcap : n ≤ cap) (hcap2 : cap ≤ 9223372036854775807) :
    Calls Try.prog 28 #[.agg #[.int .i64 x, .slice a n cap], .int .i64 i] w (GRes (M.dropRes x l i) w) := by
  have HI := Lib.hid h
  have hl : l.length = n := h.1
  have hb0 := b_alloc2 w (.cells #[.int .i64 x, .slice a n cap] 26) (.cells #[.int .i64 0, .slice none 0 0] 26)
  have hG : GBox ((w.alloc (.cells #[.int .i64 x, .slice a n cap] 26)).alloc (.cells #[.int .i64 0, .slice none 0 0] 26)) w.heap.size x a n cap := (gBox_new w x a n cap 26).below (b_alloc _ _)
  have hR : ResG ((w.alloc (.cells #[.int .i64 x, .slice a n cap] 26)).alloc (.cells #[.int .i64 0, .slice none 0 0] 26)) (w.heap.size + 1) := by
    have := resG_new (w.alloc (.cells #[.int .i64 x, .slice a n cap] 26)) 26
    rwa [World.size_alloc] at this
  obtain ⟨wb, hwb⟩ : ∃ z, z = (w.alloc (.cells #[.int .i64 x, .slice a n cap] 26)).alloc (.cells #[.int .i64 0, .slice none 0 0] 26) := ⟨_, rfl⟩
  rw [← hwb] at hb0 hG hR
  have HS := Lib.hid (sIndex x a n cap l i wb (h.below hb0))
  have HG := Lib.hid hG
  have HRs := Lib.hid hR
  have HB0 := Lib.hid hb0
  obtain ⟨r, hr⟩ : ∃ r, r = M.dropRes x l i := ⟨_, rfl⟩
  have HC := Lib.hid (M.drop_cases x l i)
  obtain ⟨cd, hcd⟩ : ∃ c, c = M.ixCode x l i := ⟨_, rfl⟩
  rw [← hr] at HC ⊢
  rw [← hcd] at HC HS
  clear h hG hb0 hR hr hcd
  go_enter Try.func28, Try.ntmps28
  go_wp2_with fail
  rw [← hwb]
  clear hwb
  refine (HS.out).mono ?_
  rintro e w1 ⟨rfl, hb1⟩
  have HB1 := Lib.hid (HB0.out.trans (hb1.mono HB0.out.size))
  have HI1 := Lib.hid (HI.out.below HB1.out)
  obtain ⟨g0, g1⟩ := HG.out.below hb1
  have HR1 := Lib.hid (HRs.out.below hb1)
  obtain ⟨r0, r1, f0, f1⟩ := HR1.out
  have z1 : w.heap.size + 1 < w1.heap.size := cell_lt r0
  clear hb1 HS
  rcases HC.out with ⟨-, rfl, hr⟩ | ⟨-, h30, -, rfl, hr⟩ | ⟨k, rfl, hk, h30, -, -, rfl, hr⟩
  · have HR := Lib.hid hr
    clear hr HC
    go_wp2
    exact bodyPost_ret (v := .tuple #[.agg #[.int .i64 0, .slice none 0 0], .int .i64 1]) (by simp [results, Try.results28, go_sem, z1, r0, r1]) rfl (GRes.nil HR.out ((HB1.out.setCell (by show _ ≤ w.heap.size + 1; omega) _).setCell (by show _ ≤ w.heap.size + 1; omega) _))
  · have HR := Lib.hid hr
    clear hr HC
    go_wp2
    exact bodyPost_ret (v := .tuple #[.agg #[.int .i64 0, .slice none 0 0], .int .i64 2]) (by simp [results, Try.results28, go_sem, z1, r0, r1]) rfl (GRes.nil HR.out ((HB1.out.setCell (by show _ ≤ w.heap.size + 1; omega) _).setCell (by show _ ≤ w.heap.size + 1; omega) _))
  · have HR := Lib.hid hr
    clear hr HC
    have hki : (k : Int) < (n : Int) := by omega
    have hkc : k ≤ cap := by omega
    have hkc2 : (k : Int) ≤ (cap : Int) := by omega
    obtain ⟨b, off, -, -, -, -, rfl, -⟩ := HI1.out.at k (by omega)
    have HIt := Lib.hid (HI1.out.take (k := k) (by omega))
    have HId := Lib.hid (HI1.out.drop (k := k + 1) (by omega))
    have HO : Hid (OwnPl ((w1.alloc (.cells #[] 39)).drew) w1.heap.size (.slice (some ⟨w1.heap.size, 0, none⟩) 0 0) []) := ownPl_lit0 w1 w1.heap.size (Nat.le_refl _)
    have HB3 : Hid (Below w1.heap.size w1 ((w1.alloc (.cells #[] 39)).drew)) := (b_alloc w1 _).drew
    have hl1 : (l.take k).length = k := by rw [List.length_take]; omega
    have hwr : IntKind.i64.wrap ((k : Int) + 1) = ((k + 1 : Nat) : Int) := by rw [IntKind.wrap_i64]; omega
    obtain ⟨o2, hif, hp2⟩ : ∃ o2, (if cap = k + 1 then some (⟨b, off, none⟩ : Addr) else some ⟨b, off + (k + 1) * 4, none⟩) = some ⟨b, o2, none⟩ ∧ Pls w1 (some ⟨b, o2, none⟩) (n - (k + 1)) (l.drop (k + 1)) := by
      by_cases q : cap = k + 1
      · rw [if_pos q]
        exact ⟨off, rfl, by rw [List.length_drop]; omega, by have := HI1.out.2.1; omega, .inl (by omega)⟩
      · rw [if_neg q]
        exact ⟨_, rfl, HId.out⟩
    have HP2 := Lib.hid hp2
    have hk0 : (0 : Int) ≤ (k : Int) + 1 := by omega
    have hk1n : (k : Int) + 1 ≤ (n : Int) := by omega
    have hk1c : (k : Int) + 1 ≤ (cap : Int) := by omega
    clear hp2
    have HB0 : Hid (GBox w1 w.heap.size x (some ⟨b, off, none⟩) n cap ∧ ResG w1 (w.heap.size + 1)) := ⟨⟨g0, g1⟩, HR1.out⟩
    obtain ⟨ga0, ga1⟩ := HB0.out.1.below (b_alloc w1 (.cells #[] 39))
    go_wp2
    go_region_law (first
      | (refine step_appendPl _ rfl (.tmp 16) (.tmp 20) rfl w1.heap.size (.slice (some ⟨w1.heap.size, 0, none⟩) 0 0) [] (l.take k) 0 k b off cap rfl rfl HO.out (by simp) rfl (HIt.out.below HB3.out) (by omega) (HB3.out.size) ?_; intro v' w2 hA; obtain ⟨g, c, hv, ho, hb, hfr, hat⟩ := hA; subst hv; have HBb := Lib.hid (HB3.out.trans hb); have HOa : Hid (OwnPl w2 w1.heap.size (.slice (some ⟨g, 0, none⟩) k c) (l.take k)) := (by have := ho; simp only [List.nil_append, Nat.zero_add] at this; exact this); obtain ⟨c0, c1⟩ := HB0.out.1.below HBb.out; skip)
      | (refine step_appendPl _ rfl (.tmp 21) (.tmp 26) rfl w1.heap.size (.slice (some ⟨g, 0, none⟩) k c) (l.take k) (l.drop (k + 1)) k (n - (k + 1)) b o2 (cap - (k + 1)) hl1 rfl HOa.out (by simp) rfl (HP2.out.below HBb.out) (by omega) (HBb.out.size) ?_; intro v' w3 hA; obtain ⟨g', c', hv, ho, hb, -, -⟩ := hA; subst hv; have HBc := Lib.hid (HBb.out.trans hb); have HOc := Lib.hid ho; obtain ⟨cc0, cc1⟩ := HB0.out.1.below HBc.out; obtain ⟨rr0, rr1, ff0, ff1⟩ := HB0.out.2.below HBc.out)
      | (trace_state; fail))
    all_goals
      have hg' : w1.heap.size ≤ g' := (HOc.out.lt rfl).1
      have z3 := HBc.out.size
      have HO6 : Hid (OwnPl ((w3.setCell ⟨w.heap.size + 1, 0, none⟩ (.int .i64 x)).setCell ⟨w.heap.size + 1, 1, none⟩ (.slice (some ⟨g', 0, none⟩) (k + (n - (k + 1))) c')) w.heap.size (.slice (some ⟨g', 0, none⟩) (k + (n - (k + 1))) c') (l.take k ++ l.drop (k + 1))) := by
        refine (HOc.out.keepB fun q hq => ?_).mono (by omega)
        simp [Value.ownBlock] at hq
        subst hq
        rw [Below.heap_setCell _ _ _ _ (by show g' ≠ w.heap.size + 1; omega), Below.heap_setCell _ _ _ _ (by show g' ≠ w.heap.size + 1; omega)]
      have HB6 := Lib.hid (((HB1.out.trans (HBc.out.mono HB1.out.size)).setCell (p := ⟨w.heap.size + 1, 0, none⟩) (by show _ ≤ w.heap.size + 1; omega) (.int .i64 x)).setCell (p := ⟨w.heap.size + 1, 1, none⟩) (by show _ ≤ w.heap.size + 1; omega) (.slice (some ⟨g', 0, none⟩) (k + (n - (k + 1))) c'))
      have z5 : w.heap.size + 1 < w3.heap.size := by omega
      go_wp2
      rw [HR.out]
      exact bodyPost_ret (v := .tuple #[.agg #[.int .i64 x, .slice (some ⟨g', 0, none⟩) (k + (n - (k + 1))) c'], .int .i64 0]) (by simp [results, Try.results28, go_sem, z5, rr0, rr1]) rfl ⟨_, _, _, rfl, HO6.out, HB6.out⟩
theorem sDropPlace (x : Int) (a : Option Addr) (n cap : Nat) (l : List M.Pc) (i : Int) (w : World) (h : Pls w a n l) (hcap : n ≤ cap) (hcap2 : cap ≤ 1048576) :
    Calls Try.prog 28 #[.agg #[.int .i64 x, .slice a n cap], .int .i64 i] w (GRes (M.dropRes x l i) w) := sDropPlaceX x a n cap l i w h hcap (by omega)
end V
end Go.Proofs.Ytphobmddkphofaa

namespace Go.Proofs.Ytphobmddkphofaa
namespace V
set_option maxRecDepth 100000
open Go.RowKit
theorem run_append_zero (w : World) (base : Option Addr) (n c : Nat) (p : Option Addr) (c2 : Nat) (hnc : n ≤ c) (ty : TypeId) :
    (Builtin.append_ #[24, 24] ty #[.slice base n c, .slice p 0 c2]).run Try.prog w = .ok (.slice base n c) w := by
  obtain ⟨i0, hi, hz0, hz1, hz2⟩ := infoP_parts
  have ht := Try.underlying24
  cases p with
  | none =>
    cases base with
    | none => simp [Builtin.append_, run_underlying ht, sizeOf, typeInfo, zeroValue, hi, hz0, Builtin.lenOf, hnc, Question.forced, run_firstCells_none, storeCells]
    | some b => simp [Builtin.append_, run_underlying ht, sizeOf, typeInfo, zeroValue, hi, hz0, Builtin.lenOf, hnc, Question.forced, run_firstCells_none, storeCells]
  | some a =>
    have hf := run_firstCells_some (P := Try.prog) w i0.size 0 a 0 c2 [] (by simp) (by simp)
    cases base with
    | none => simp [Builtin.append_, run_underlying ht, sizeOf, typeInfo, zeroValue, hi, hz0, Builtin.lenOf, hnc, Question.forced, hf, storeCells]
    | some b => simp [Builtin.append_, run_underlying ht, sizeOf, typeInfo, zeroValue, hi, hz0, Builtin.lenOf, hnc, Question.forced, hf, storeCells]
set_option maxRecDepth 100000 in
set_option maxHeartbeats 2000000 in
theorem concatPl0 (b : Nat) (p1 p2 : Option Addr) (c1 c2 : Nat) (w : World)
    (hc0 : w.cell? ⟨b, 0, none⟩ = some (.slice p1 0 c1)) (hc1 : w.cell? ⟨b, 1, none⟩ = some (.slice p2 0 c2)) :
    Calls Try.prog 91 #[.slice (some ⟨b, 0, none⟩) 2 2] w fun e w' => e = .returned (.slice none 0 0) ∧ Below w.heap.size w w' := by
  have HB : Hid (Below w.heap.size w w) := Below.refl _ _
  go_enter Try.func91, Try.ntmps91
  go_wp2
  go_loop [3, 11] (fun sv iv => sv = .int .i64 0 ∧ (iv = .int .i64 0 ∨ iv = .int .i64 1 ∨ iv = .int .i64 2)) (fun _ iv => 2 - (intOf iv).toNat)
  case atStart => exact ⟨rfl, .inl rfl⟩
  case round =>
    obtain ⟨rfl, rfl | rfl | rfl⟩ := hrel
    · go_wp2
      go_round
      case rel => exact ⟨by go_num, .inr (.inl rfl)⟩
      case measure => simp [intOf]
    · go_wp2
      go_round
      case rel => exact ⟨by go_num, .inr (.inr rfl)⟩
      case measure => simp [intOf]
    · go_wp2
      go_loop [6, 27] (fun v iv => v = .slice none 0 0 ∧ (iv = .int .i64 0 ∨ iv = .int .i64 1 ∨ iv = .int .i64 2)) (fun _ iv => 2 - (intOf iv).toNat)
      case atStart => exact ⟨rfl, .inl rfl⟩
      case round =>
        obtain ⟨rfl, rfl | rfl | rfl⟩ := hrel
        · go_wp2_with (at_builtin; refine Lib.wpList_append_run _ rfl (.tmp 31) (.tmp 32) 24 24 rfl _ _ rfl rfl _ _ (run_append_zero w none 0 0 p1 c1 (Nat.le_refl _) _) ?_)
          go_wp2
          go_round
          case rel => exact ⟨rfl, .inr (.inl rfl)⟩
          case measure => simp [intOf]
        · go_wp2_with (at_builtin; refine Lib.wpList_append_run _ rfl (.tmp 31) (.tmp 32) 24 24 rfl _ _ rfl rfl _ _ (run_append_zero w none 0 0 p2 c2 (Nat.le_refl _) _) ?_)
          go_wp2
          go_round
          case rel => exact ⟨rfl, .inr (.inr rfl)⟩
          case measure => simp [intOf]
        · go_wp2
          go_ret
          exact ⟨rfl, HB.out⟩
theorem concatAny (b g1 o1 n1 c1 g2 o2 n2 c2 : Nat) (x y : List M.Pc) (w : World) (hx : Pls w (some ⟨g1, o1, none⟩) n1 x) (hy : Pls w (some ⟨g2, o2, none⟩) n2 y)
    (hc0 : w.cell? ⟨b, 0, none⟩ = some (.slice (some ⟨g1, o1, none⟩) n1 c1)) (hc1 : w.cell? ⟨b, 1, none⟩ = some (.slice (some ⟨g2, o2, none⟩) n2 c2)) (hn : n1 + n2 ≤ 1000) :
    Calls Try.prog 91 #[.slice (some ⟨b, 0, none⟩) 2 2] w fun e w' => ∃ a cc, e = .returned (.slice a (n1 + n2) cc) ∧ OwnPl w' w.heap.size (.slice a (n1 + n2) cc) (x ++ y) ∧ Below w.heap.size w w' := by
  rcases Nat.eq_zero_or_pos (n1 + n2) with h | h
  · obtain ⟨rfl, rfl⟩ : n1 = 0 ∧ n2 = 0 := by omega
    obtain rfl : x = [] := List.eq_nil_of_length_eq_zero hx.1
    obtain rfl : y = [] := List.eq_nil_of_length_eq_zero hy.1
    refine (concatPl0 b _ _ c1 c2 w hc0 hc1).mono ?_
    rintro e w' ⟨rfl, hb⟩
    exact ⟨none, 0, rfl, ownPl_nil _ _, hb⟩
  · refine (concatPl b g1 o1 n1 c1 g2 o2 n2 c2 x y w hx hy hc0 hc1 h hn).mono ?_
    rintro e w' ⟨g, cc, rfl, ho, hb⟩
    exact ⟨_, _, rfl, ho, hb⟩
end V
end Go.Proofs.Ytphobmddkphofaa

namespace Go.Proofs.Ytphobmddkphofaa
namespace V
set_option maxRecDepth 100000
open Go.RowKit
set_option maxRecDepth 100000 in
set_option maxHeartbeats 2000000 in
theorem dropPlaceX (x : Int) (a : Option Addr) (n cap : Nat) (l : List M.Pc) (i : Int) (w : World) (h : Pls w a n l) (hcap : n ≤ cap) (hcap2 : cap ≤ 9223372036854775807) :
    Calls Try.prog 27 #[.agg #[.int .i64 x, .slice a n cap], .int .i64 i] w (GRes (M.dropRes x l i) w) := by
  have HI := Lib.hid h
  have hl : l.length = n := h.1
  have hb0 := b_alloc2 w (.cells #[.int .i64 x, .slice a n cap] 26) (.cells #[.int .i64 0, .slice none 0 0] 26)
  have hG : GBox ((w.alloc (.cells #[.int .i64 x, .slice a n cap] 26)).alloc (.cells #[.int .i64 0, .slice none 0 0] 26)) w.heap.size x a n cap := (gBox_new w x a n cap 26).below (b_alloc _ _)
  have hR : ResG ((w.alloc (.cells #[.int .i64 x, .slice a n cap] 26)).alloc (.cells #[.int .i64 0, .slice none 0 0] 26)) (w.heap.size + 1) := by
    have := resG_new (w.alloc (.cells #[.int .i64 x, .slice a n cap] 26)) 26
    rwa [World.size_alloc] at this
  obtain ⟨wb, hwb⟩ : ∃ z, z = (w.alloc (.cells #[.int .i64 x, .slice a n cap] 26)).alloc (.cells #[.int .i64 0, .slice none 0 0] 26) := ⟨_, rfl⟩
  rw [← hwb] at hb0 hG hR
  have HS := Lib.hid (isEventGraph x a n cap l wb (h.below hb0))
  have HG := Lib.hid hG
  have HRs := Lib.hid hR
  have HB0 := Lib.hid hb0
  obtain ⟨r, hr⟩ : ∃ r, r = M.dropRes x l i := ⟨_, rfl⟩
  have HC := Lib.hid (M.drop_cases x l i)
  obtain ⟨b0, hb0'⟩ : ∃ c, c = M.isGr x l := ⟨_, rfl⟩
  rw [← hr] at HC ⊢
  rw [← hb0', hl] at HC
  rw [← hb0'] at HS
  have HX : Hid (∀ W, n ≤ 1048576 → Calls Try.prog 83 #[.agg #[.int .i64 x, .slice a n cap], .int .i64 i] W fun e w' => e = .returned (.bool (M.inB i 0 ((n : Int) - 1))) ∧ Below W.heap.size W w') := fun W hn => hasIndex x a n cap i W hn
  obtain ⟨b1, hb1'⟩ : ∃ c, c = M.inB i 0 ((n : Int) - 1) := ⟨_, rfl⟩
  rw [← hb1'] at HC HX
  have hmx := h.2.1
  clear h hG hb0 hR hr hb0' hb1'
  go_enter Try.func27, Try.ntmps27
  go_wp2_with fail
  rw [← hwb]
  clear hwb
  refine (HS.out).mono ?_
  rintro e w1 ⟨rfl, hb1⟩
  have HB1 := Lib.hid (HB0.out.trans (hb1.mono HB0.out.size))
  have HI1 := Lib.hid (HI.out.below HB1.out)
  have HG1 := Lib.hid (HG.out.below hb1)
  obtain ⟨g0, g1⟩ := HG1.out
  have HR1 := Lib.hid (HRs.out.below hb1)
  obtain ⟨r0, r1, f0, f1⟩ := HR1.out
  have z1 : w.heap.size + 1 < w1.heap.size := cell_lt r0
  clear hb1 HS
  rcases HC.out with ⟨rfl, -, hr⟩ | ⟨rfl, h30, rfl, -, hr⟩ | ⟨k, rfl, hk, h30, rfl, rfl, -, hr⟩
  · have HR := Lib.hid hr
    clear hr HC
    go_wp2
    exact bodyPost_ret (v := .tuple #[.agg #[.int .i64 0, .slice none 0 0], .int .i64 1]) (by simp [results, Try.results27, go_sem, z1, r0, r1]) rfl (GRes.nil HR.out ((HB1.out.setCell (by show _ ≤ w.heap.size + 1; omega) _).setCell (by show _ ≤ w.heap.size + 1; omega) _))
  · have HR := Lib.hid hr
    clear hr HC
    go_wp2_with fail
    refine (HX.out _ (by omega)).mono ?_
    rintro e w2 ⟨rfl, hb2⟩
    obtain ⟨r0', r1', f0', f1'⟩ := HR1.out.below hb2
    have HB2 := Lib.hid (HB1.out.trans (hb2.mono HB1.out.size))
    have z2 : w.heap.size + 1 < w2.heap.size := cell_lt r0'
    clear hb2 r0 r1 f0 f1 HX
    go_wp2
    exact bodyPost_ret (v := .tuple #[.agg #[.int .i64 0, .slice none 0 0], .int .i64 2]) (by simp [results, Try.results27, go_sem, z2, r0', r1']) rfl (GRes.nil HR.out ((HB2.out.setCell (by show _ ≤ w.heap.size + 1; omega) _).setCell (by show _ ≤ w.heap.size + 1; omega) _))
  · have HR := Lib.hid hr
    clear hr HC
    have hki : (k : Int) < (n : Int) := by omega
    have hkc : k ≤ cap := by omega
    have hkc2 : (k : Int) ≤ (cap : Int) := by omega
    go_wp2_with fail
    refine (HX.out _ (by omega)).mono ?_
    rintro e w2 ⟨rfl, hb2⟩
    have HB2 := Lib.hid (HB1.out.trans (hb2.mono HB1.out.size))
    have HBox : Hid (GBox w2 w.heap.size x a n cap ∧ ResG w2 (w.heap.size + 1)) := ⟨HG1.out.below hb2, HR1.out.below hb2⟩
    have HI2 := Lib.hid (HI1.out.below hb2)
    clear g0 g1
    obtain ⟨g0, g1⟩ := HBox.out.1
    have z2 : w.heap.size + 1 < w2.heap.size := cell_lt HBox.out.2.1
    clear hb2 r0 r1 f0 f1 HX
    obtain ⟨b, off, -, -, -, -, rfl, -⟩ := HI2.out.at k (by omega)
    have HIt := Lib.hid (HI2.out.take (k := k) (by omega))
    have HId := Lib.hid (HI2.out.drop (k := k + 1) (by omega))
    have hwr : IntKind.i64.wrap ((k : Int) + 1) = ((k + 1 : Nat) : Int) := by rw [IntKind.wrap_i64]; omega
    obtain ⟨o2, hif, hp2⟩ : ∃ o2, (if cap = k + 1 then some (⟨b, off, none⟩ : Addr) else some ⟨b, off + (k + 1) * 4, none⟩) = some ⟨b, o2, none⟩ ∧ Pls w2 (some ⟨b, o2, none⟩) (n - (k + 1)) (l.drop (k + 1)) := by
      by_cases q : cap = k + 1
      · rw [if_pos q]
        exact ⟨off, rfl, by rw [List.length_drop]; omega, by have := HI2.out.2.1; omega, .inl (by omega)⟩
      · rw [if_neg q]
        exact ⟨_, rfl, HId.out⟩
    have HP2 := Lib.hid hp2
    have hk0 : (0 : Int) ≤ (k : Int) + 1 := by omega
    have hk1n : (k : Int) + 1 ≤ (n : Int) := by omega
    have hk1c : (k : Int) + 1 ≤ (cap : Int) := by omega
    clear hp2
    have hb9 := b_alloc w2 (.cells #[.slice (some ⟨b, off, none⟩) k cap, .slice (some ⟨b, o2, none⟩) (n - (k + 1)) (cap - (k + 1))] 24)
    obtain ⟨ga0, ga1⟩ := HBox.out.1.below hb9
    have HBd : Hid (Below w2.heap.size w2 ((w2.alloc (.cells #[.slice (some ⟨b, off, none⟩) k cap, .slice (some ⟨b, o2, none⟩) (n - (k + 1)) (cap - (k + 1))] 24)).drew)) := hb9.drew
    clear hb9
    go_wp2
    go_region_with (first
      | (go_at_call 91; refine (concatAny w2.heap.size b off k cap b o2 (n - (k + 1)) (cap - (k + 1)) (l.take k) (l.drop (k + 1)) _ (HIt.out.below HBd.out) (HP2.out.below HBd.out) (by simp [go_sem]) (by simp [go_sem]) (by omega)).mono ?_; rintro e w3 ⟨a3, c3, rfl, ho, hb⟩; have HBe := Lib.hid (HBd.out.trans (hb.mono HBd.out.size)); have HO3 := Lib.hid (ho.mono HBd.out.size); obtain ⟨c0, c1⟩ := HBox.out.1.below HBe.out)
      | (go_at_call 87; refine (withPl x (some ⟨b, off, none⟩) n cap a3 (k + (n - (k + 1))) c3 _).mono ?_; rintro e w4 ⟨rfl, hb4⟩; have HBf := Lib.hid (HBe.out.trans (hb4.mono HBe.out.size)); have HO4 := Lib.hid (HO3.out.below hb4); obtain ⟨rr0, rr1, ff0, ff1⟩ := HBox.out.2.below HBf.out))
    all_goals
      have z4 := HBf.out.size
      have HO6 : Hid (OwnPl ((w4.setCell ⟨w.heap.size + 1, 0, none⟩ (.int .i64 x)).setCell ⟨w.heap.size + 1, 1, none⟩ (.slice a3 (k + (n - (k + 1))) c3)) w.heap.size (.slice a3 (k + (n - (k + 1))) c3) (l.take k ++ l.drop (k + 1))) := by
        refine (HO4.out.keepB fun q hq => ?_).mono (by omega)
        have := (HO4.out.lt hq).1
        rw [Below.heap_setCell _ _ _ _ (by show q ≠ w.heap.size + 1; omega), Below.heap_setCell _ _ _ _ (by show q ≠ w.heap.size + 1; omega)]
      have HB6 := Lib.hid (((HB2.out.trans (HBf.out.mono HB2.out.size)).setCell (p := ⟨w.heap.size + 1, 0, none⟩) (by show _ ≤ w.heap.size + 1; omega) (.int .i64 x)).setCell (p := ⟨w.heap.size + 1, 1, none⟩) (by show _ ≤ w.heap.size + 1; omega) (.slice a3 (k + (n - (k + 1))) c3))
      have z5 : w.heap.size + 1 < w4.heap.size := by omega
      go_wp2
      rw [HR.out]
      exact bodyPost_ret (v := .tuple #[.agg #[.int .i64 x, .slice a3 (k + (n - (k + 1))) c3], .int .i64 0]) (by simp [results, Try.results27, go_sem, z5, rr0, rr1]) rfl ⟨_, _, _, rfl, HO6.out, HB6.out⟩
theorem dropPlace (x : Int) (a : Option Addr) (n cap : Nat) (l : List M.Pc) (i : Int) (w : World) (h : Pls w a n l) (hcap : n ≤ cap) (hcap2 : cap ≤ 1048576) :
    Calls Try.prog 27 #[.agg #[.int .i64 x, .slice a n cap], .int .i64 i] w (GRes (M.dropRes x l i) w) := dropPlaceX x a n cap l i w h hcap (by omega)
end V
end Go.Proofs.Ytphobmddkphofaa

namespace Go.Proofs.Ytphobmddkphofaa
namespace M
def addpRes (e : Int) (l : List Pc) (p : Pc) : Int × List Pc × Int := if isGr e l then (if plW (e - 1) p then (if l.length = 30 then (0, [], 3) else (e, l ++ [p], 0)) else (0, [], 2)) else (0, [], 1)
theorem addpRes_len (e : Int) (l : List Pc) (p : Pc) : (addpRes e l p).2.1.length ≤ 30 := by
  unfold addpRes
  cases h : isGr e l with
  | false => simp
  | true =>
    have := (isGr_in h).2
    cases h2 : plW (e - 1) p with
    | false => simp
    | true =>
      by_cases h3 : l.length = 30
      · simp [h3]
      · simp [h3]; omega
theorem add_cases (e : Int) (l : List Pc) (p : Pc) :
    (isGr e l = false ∧ addpRes e l p = (0, [], 1)) ∨ (isGr e l = true ∧ inB e 1 10 = true ∧ plW (e - 1) p = false ∧ addpRes e l p = (0, [], 2)) ∨
    (isGr e l = true ∧ inB e 1 10 = true ∧ plW (e - 1) p = true ∧ l.length = 30 ∧ addpRes e l p = (0, [], 3)) ∨ (isGr e l = true ∧ inB e 1 10 = true ∧ plW (e - 1) p = true ∧ l.length < 30 ∧ addpRes e l p = (e, l ++ [p], 0)) := by
  unfold addpRes
  cases h : isGr e l with
  | false => exact .inl ⟨rfl, rfl⟩
  | true =>
    refine .inr ?_
    have := (isGr_in h).2
    cases h2 : plW (e - 1) p with
    | false => exact .inl ⟨rfl, (isGr_in h).1, rfl, rfl⟩
    | true =>
      refine .inr ?_
      by_cases h3 : l.length = 30
      · exact .inl ⟨rfl, (isGr_in h).1, rfl, h3, by simp [h3]⟩
      · exact .inr ⟨rfl, (isGr_in h).1, rfl, by omega, by simp [h3]⟩
end M
namespace V
set_option maxRecDepth 100000
open Go.RowKit
theorem step_append_run (w : World) {ops : Array Oper} {o : Oper} {a : Act} {K : Act → World → Prop} {Q : Exit → Act → World → Prop} {E : Prop} (hgd : o.guard = none) (s x : Operand) (t tn : TypeId)
    (ho : o.op = .call { callee := .builtin .append, args := #[s, x], argTypes := #[t, tn] }) (vs vx : Value) (hs : a.eval s = vs) (hx : a.eval x = vx)
    (v' : Value) (w' : World) (hr : (Builtin.append_ #[t, tn] o.type #[vs, vx]).run Try.prog w = .ok v' w') (h : K (a.put o.dst v') w') :
    if Region.wanted o (yielded ops a.tmps) = true then Oper.wp Try.prog o a w K Q else E := by
  have hw : Region.wanted o (yielded ops a.tmps) = true := by simp [Region.wanted, hgd]
  rw [if_pos hw]
  exact Lib.wp_append_run w s x t tn ho vs vx hs hx v' w' hr h
/-- The box of a place. -/
def PBox (w : World) (g : Nat) (p0 p1 p2 p3 : Int) : Prop := w.cell? ⟨g, 0, none⟩ = some (.int .i64 p0) ∧ w.cell? ⟨g, 1, none⟩ = some (.int .i64 p1) ∧ w.cell? ⟨g, 2, none⟩ = some (.int .i64 p2) ∧ w.cell? ⟨g, 3, none⟩ = some (.int .i64 p3)
theorem PBox.below {w w' : World} {g : Nat} {p0 p1 p2 p3 : Int} (h : PBox w g p0 p1 p2 p3) (hb : Below w.heap.size w w') : PBox w' g p0 p1 p2 p3 :=
  ⟨(hb.cell (cell_lt h.1)).trans h.1, (hb.cell (cell_lt h.2.1)).trans h.2.1, (hb.cell (cell_lt h.2.2.1)).trans h.2.2.1, (hb.cell (cell_lt h.2.2.2)).trans h.2.2.2⟩
set_option maxRecDepth 100000 in
set_option maxHeartbeats 2000000 in
theorem sOwn0 (x : Int) (a : Option Addr) (cap : Nat) (w : World) :
    Calls Try.prog 90 #[.agg #[.int .i64 x, .slice a 0 cap]] w fun e w' => ∃ g c, e = .returned (.agg #[.int .i64 x, .slice (some ⟨g, 0, none⟩) 0 c]) ∧ OwnPl w' w.heap.size (.slice (some ⟨g, 0, none⟩) 0 c) [] ∧ Below w.heap.size w w' := by
  have hr := run_append_zero ((((w.alloc (.cells #[.int .i64 x, .slice a 0 cap] 26)).alloc (.cells #[.int .i64 0, .slice none 0 0] 26)).alloc (.cells #[] 39)).drew) (some ⟨w.heap.size + 1 + 1, 0, none⟩) 0 0 a cap (Nat.le_refl _) 24
  have HR := Lib.hid hr
  clear hr
  go_enter Try.func90, Try.ntmps90
  go_wp2
  go_region_law (refine step_append_run _ rfl (.tmp 5) (.tmp 7) 24 24 rfl _ _ rfl rfl _ _ HR.out ?_)
  all_goals
    have ho0 := ownPl_lit0 ((w.alloc (.cells #[.int .i64 x, .slice a 0 cap] 26)).alloc (.cells #[.int .i64 x, .slice (some ⟨w.heap.size + 1 + 1, 0, none⟩) 0 0] 26)) w.heap.size (by simp; omega)
    simp only [World.size_alloc] at ho0
    have hb3 := (b_al3g w (.cells #[.int .i64 x, .slice a 0 cap] 26) (.cells #[.int .i64 x, .slice (some ⟨w.heap.size + 1 + 1, 0, none⟩) 0 0] 26) (.cells #[] 39)).drew
    go_wp2
    exact bodyPost_ret (v := .agg #[.int .i64 x, .slice (some ⟨w.heap.size + 1 + 1, 0, none⟩) 0 0]) (by simp [results, Try.results90, go_sem]) rfl ⟨_, _, rfl, ho0, hb3⟩
theorem sOwnAny (x : Int) (a : Option Addr) (n cap : Nat) (l : List M.Pc) (w : World) (h : Pls w a n l) (hn : n ≤ 1048576) :
    Calls Try.prog 90 #[.agg #[.int .i64 x, .slice a n cap]] w fun e w' => ∃ g c, e = .returned (.agg #[.int .i64 x, .slice (some ⟨g, 0, none⟩) n c]) ∧ OwnPl w' w.heap.size (.slice (some ⟨g, 0, none⟩) n c) l ∧ Below w.heap.size w w' := by
  rcases Nat.eq_zero_or_pos n with q | q
  · subst q
    obtain rfl : l = [] := List.eq_nil_of_length_eq_zero h.1
    exact sOwn0 x a cap w
  · obtain ⟨b, off, -, -, -, -, rfl, -⟩ := h.at 0 q
    exact sOwnG x b off n cap l w h hn
set_option maxRecDepth 100000 in
set_option maxHeartbeats 2000000 in
theorem sAddPlace (x : Int) (a : Option Addr) (n cap : Nat) (l : List M.Pc) (p0 p1 p2 p3 : Int) (w : World) (h : Pls w a n l) :
    Calls Try.prog 50 #[.agg #[.int .i64 x, .slice a n cap], .agg #[.int .i64 p0, .int .i64 p1, .int .i64 p2, .int .i64 p3]] w (GRes (M.addpRes x l (p0, p1, p2, p3)) w) := by
  have HI := Lib.hid h
  have hl : l.length = n := h.1
  have hb0 := b_al3g w (.cells #[.int .i64 x, .slice a n cap] 26) (.cells #[.int .i64 p0, .int .i64 p1, .int .i64 p2, .int .i64 p3] 39) (.cells #[.int .i64 0, .slice none 0 0] 26)
  obtain ⟨wb, hwb⟩ : ∃ z, z = (((w.alloc (.cells #[.int .i64 x, .slice a n cap] 26)).alloc (.cells #[.int .i64 p0, .int .i64 p1, .int .i64 p2, .int .i64 p3] 39)).alloc (.cells #[.int .i64 0, .slice none 0 0] 26)) := ⟨_, rfl⟩
  have hG : GBox wb w.heap.size x a n cap := by rw [hwb]; exact ⟨by simp [go_sem], by simp [go_sem]⟩
  have hP : PBox wb (w.heap.size + 1) p0 p1 p2 p3 := by rw [hwb]; exact ⟨by simp [go_sem], by simp [go_sem], by simp [go_sem], by simp [go_sem]⟩
  have hR : ResG wb (w.heap.size + 1 + 1) := by rw [hwb]; exact ⟨by simp [go_sem], by simp [go_sem], by simp [go_sem], by simp [go_sem]⟩
  rw [← hwb] at hb0
  have HS := Lib.hid (sIsEventGraph x a n cap l wb (h.below hb0))
  have HG := Lib.hid hG
  have HPb := Lib.hid hP
  have HRs := Lib.hid hR
  have HB0 := Lib.hid hb0
  obtain ⟨r, hr⟩ : ∃ r, r = M.addpRes x l (p0, p1, p2, p3) := ⟨_, rfl⟩
  have HC := Lib.hid (M.add_cases x l (p0, p1, p2, p3))
  obtain ⟨b0, hb0'⟩ : ∃ c, c = M.isGr x l := ⟨_, rfl⟩
  rw [← hr, ← hb0', hl] at HC
  rw [← hr]
  rw [← hb0'] at HS
  have HPl : Hid (∀ W, M.inB x 1 10 = true → Calls Try.prog 117 #[.agg #[.int .i64 p0, .int .i64 p1, .int .i64 p2, .int .i64 p3], .int .i64 x] W fun e w' => e = .returned (.bool (M.plW (x - 1) (p0, p1, p2, p3))) ∧ Below W.heap.size W w') := fun W q => by have := sPlace p0 p1 p2 p3 x W; rwa [ev_wrap q] at this
  obtain ⟨b1, hb1'⟩ : ∃ c, c = M.plW (x - 1) (p0, p1, p2, p3) := ⟨_, rfl⟩
  rw [← hb1'] at HC HPl
  have hmx := h.2.1
  unfold maxLen at hmx
  clear h hG hP hb0 hR hr hb0' hb1'
  go_enter Try.func50, Try.ntmps50
  go_wp2_with fail
  rw [← hwb]
  clear hwb
  refine (HS.out).mono ?_
  rintro e w1 ⟨rfl, hb1⟩
  have HB1 := Lib.hid (HB0.out.trans (hb1.mono HB0.out.size))
  have HI1 := Lib.hid (HI.out.below HB1.out)
  have HG1 := Lib.hid (HG.out.below hb1)
  have HP1 := Lib.hid (HPb.out.below hb1)
  have HR1 := Lib.hid (HRs.out.below hb1)
  obtain ⟨g0, g1⟩ := HG1.out
  obtain ⟨q0, q1, q2, q3⟩ := HP1.out
  obtain ⟨r0, r1, f0, f1⟩ := HR1.out
  have z1 : w.heap.size + 1 + 1 < w1.heap.size := cell_lt r0
  clear hb1 HS
  rcases HC.out with ⟨rfl, hr⟩ | ⟨rfl, hx, rfl, hr⟩ | ⟨rfl, hx, rfl, h30, hr⟩ | ⟨rfl, hx, rfl, h30, hr⟩
  · have HR := Lib.hid hr
    clear hr HC
    go_wp2
    exact bodyPost_ret (v := .tuple #[.agg #[.int .i64 0, .slice none 0 0], .int .i64 1]) (by simp [results, Try.results50, go_sem, z1, r0, r1]) rfl (GRes.nil HR.out ((HB1.out.setCell (by show _ ≤ w.heap.size + 1 + 1; omega) _).setCell (by show _ ≤ w.heap.size + 1 + 1; omega) _))
  all_goals
    have HR := Lib.hid hr
    clear hr HC
    go_wp2_with fail
    refine (HPl.out _ hx).mono ?_
    rintro e w2 ⟨rfl, hb2⟩
    have HB2 := Lib.hid (HB1.out.trans (hb2.mono HB1.out.size))
    have HI2 := Lib.hid (HI1.out.below hb2)
    have HG2 := Lib.hid (HG1.out.below hb2)
    have HP2 := Lib.hid (HP1.out.below hb2)
    have HR2 := Lib.hid (HR1.out.below hb2)
    clear g0 g1 q0 q1 q2 q3 r0 r1 f0 f1
    obtain ⟨g0, g1⟩ := HG2.out
    obtain ⟨q0, q1, q2, q3⟩ := HP2.out
    obtain ⟨r0, r1, f0, f1⟩ := HR2.out
    have z2 : w.heap.size + 1 + 1 < w2.heap.size := cell_lt r0
    clear hb2 HPl
  · go_wp2
    exact bodyPost_ret (v := .tuple #[.agg #[.int .i64 0, .slice none 0 0], .int .i64 2]) (by simp [results, Try.results50, go_sem, z2, r0, r1]) rfl (GRes.nil HR.out ((HB2.out.setCell (by show _ ≤ w.heap.size + 1 + 1; omega) _).setCell (by show _ ≤ w.heap.size + 1 + 1; omega) _))
  · subst h30
    go_wp2
    exact bodyPost_ret (v := .tuple #[.agg #[.int .i64 0, .slice none 0 0], .int .i64 3]) (by simp [results, Try.results50, go_sem, z2, r0, r1]) rfl (GRes.nil HR.out ((HB2.out.setCell (by show _ ≤ w.heap.size + 1 + 1; omega) _).setCell (by show _ ≤ w.heap.size + 1 + 1; omega) _))
  · have hne : ((n : Int) == 30) = false := by simp; omega
    have hne2 : ¬ ((n : Int) = 30) := by omega
    go_wp2_with fail
    refine (sOwnAny x a n cap l w2 HI2.out (by omega)).mono ?_
    rintro e w3 ⟨g, c, rfl, ho, hb⟩
    have hb3 := b_alloc w3 (.cells #[.int .i64 x, .slice (some ⟨g, 0, none⟩) n c] 26)
    obtain ⟨u0, u1, u2, u3⟩ := (HP2.out.below hb).below hb3
    have hgl := ho.lt (k := g) rfl
    have HO := Lib.hid (ho.below (b_alloc2 w3 (.cells #[.int .i64 x, .slice (some ⟨g, 0, none⟩) n c] 26) (.cells #[.int .i64 p0, .int .i64 p1, .int .i64 p2, .int .i64 p3] 39)))
    have HPs : Hid (Pls ((w3.alloc (.cells #[.int .i64 x, .slice (some ⟨g, 0, none⟩) n c] 26)).alloc (.cells #[.int .i64 p0, .int .i64 p1, .int .i64 p2, .int .i64 p3] 39)) (some ⟨w3.heap.size + 1, 0, none⟩) 1 [(p0, p1, p2, p3)]) := ⟨rfl, by unfold maxLen; omega, .inr ⟨w3.heap.size + 1, 0, rfl, by simp, fun i hi => by
      obtain rfl : i = 0 := by omega
      exact ⟨by simp [go_sem], by simp [go_sem], by simp [go_sem], by simp [go_sem]⟩⟩⟩
    have HB3 : Hid (Below w2.heap.size w2 ((w3.alloc (.cells #[.int .i64 x, .slice (some ⟨g, 0, none⟩) n c] 26)).alloc (.cells #[.int .i64 p0, .int .i64 p1, .int .i64 p2, .int .i64 p3] 39))) := hb.trans ((b_alloc2 w3 _ _).mono hb.size)
    have z3 := hb.size
    have hzW : ((w3.alloc (.cells #[.int .i64 x, .slice (some ⟨g, 0, none⟩) n c] 26)).alloc (.cells #[.int .i64 p0, .int .i64 p1, .int .i64 p2, .int .i64 p3] 39)).heap.size = w3.heap.size + 1 + 1 := by simp
    have o0 : ((w3.alloc (.cells #[.int .i64 x, .slice (some ⟨g, 0, none⟩) n c] 26)).alloc (.cells #[.int .i64 p0, .int .i64 p1, .int .i64 p2, .int .i64 p3] 39)).cell? ⟨w3.heap.size, 0, none⟩ = some (.int .i64 x) := by simp [go_sem]
    have o1 : ((w3.alloc (.cells #[.int .i64 x, .slice (some ⟨g, 0, none⟩) n c] 26)).alloc (.cells #[.int .i64 p0, .int .i64 p1, .int .i64 p2, .int .i64 p3] 39)).cell? ⟨w3.heap.size, 1, none⟩ = some (.slice (some ⟨g, 0, none⟩) n c) := by simp [go_sem]
    have of1 : ((w3.alloc (.cells #[.int .i64 x, .slice (some ⟨g, 0, none⟩) n c] 26)).alloc (.cells #[.int .i64 p0, .int .i64 p1, .int .i64 p2, .int .i64 p3] 39)).frozen? ⟨w3.heap.size, 1, none⟩ = false := by simp [go_sem]
    have HOx := Lib.hid (And.intro o0 (And.intro o1 of1))
    have HZ := Lib.hid hzW
    clear hb3 ho hb o0 o1 of1 hzW g0 g1 q0 q1 q2 q3 r0 r1 f0 f1
    go_wp2_with (at_builtin; refine appendPl _ rfl (.tmp 28) (.tmp 30) rfl w2.heap.size (.slice (some ⟨g, 0, none⟩) n c) l [(p0, p1, p2, p3)] n 1 (w3.heap.size + 1) 0 1 hl rfl HO.out (by simp) rfl HPs.out (by omega) HB3.out.size ?_)
    rintro v' w4 ⟨g', c', rfl, ho4, hb4, hfr, hat⟩
    have e0 := hfr w3.heap.size (by rw [HZ.out]; omega) (by simp [Value.ownBlock]; omega)
    have o0 : w4.cell? ⟨w3.heap.size, 0, none⟩ = some (.int .i64 x) := (World.cell?_of_block (a := ⟨w3.heap.size, 0, none⟩) e0).trans HOx.out.1
    have o1 : w4.cell? ⟨w3.heap.size, 1, none⟩ = some (.slice (some ⟨g, 0, none⟩) n c) := (World.cell?_of_block (a := ⟨w3.heap.size, 1, none⟩) e0).trans HOx.out.2.1
    have of1 : w4.frozen? ⟨w3.heap.size, 1, none⟩ = false := (World.frozen?_of_block (a := ⟨w3.heap.size, 1, none⟩) e0).trans HOx.out.2.2
    have HB4 := Lib.hid (HB3.out.trans hb4)
    obtain ⟨r0, r1, f0, f1⟩ := HR2.out.below HB4.out
    have hg' : g' ≠ w3.heap.size ∧ w2.heap.size ≤ g' := by
      refine ⟨?_, (ho4.lt rfl).1⟩
      rcases hat with e | e
      · simp [Value.ownBlock] at e; omega
      · rw [HZ.out] at e; omega
    have hRn : w.heap.size + 1 + 1 ≠ w3.heap.size := by omega
    have z4 : w3.heap.size < w4.heap.size := cell_lt o0
    have hrs : ∀ W', Below w3.heap.size w4 W' → ResG W' (w.heap.size + 1 + 1) := fun W' q => ⟨(q.cell (p := ⟨_, 0, none⟩) (by show w.heap.size + 1 + 1 < _; omega)).trans r0, (q.cell (p := ⟨_, 1, none⟩) (by show w.heap.size + 1 + 1 < _; omega)).trans r1, (q.frozen (p := ⟨_, 0, none⟩) (by show w.heap.size + 1 + 1 < _; omega)).trans f0, (q.frozen (p := ⟨_, 1, none⟩) (by show w.heap.size + 1 + 1 < _; omega)).trans f1⟩
    have HO4 := Lib.hid ho4
    have HO6 : Hid (OwnPl (((w4.setCell ⟨w3.heap.size, 1, none⟩ (.slice (some ⟨g', 0, none⟩) (n + 1) c')).setCell ⟨w.heap.size + 1 + 1, 0, none⟩ (.int .i64 x)).setCell ⟨w.heap.size + 1 + 1, 1, none⟩ (.slice (some ⟨g', 0, none⟩) (n + 1) c')) w.heap.size (.slice (some ⟨g', 0, none⟩) (n + 1) c') (l ++ [(p0, p1, p2, p3)])) := by
      refine (ho4.keepB fun q hq => ?_).mono (by omega)
      simp [Value.ownBlock] at hq
      subst hq
      rw [Below.heap_setCell _ _ _ _ (by show g' ≠ w.heap.size + 1 + 1; omega), Below.heap_setCell _ _ _ _ (by show g' ≠ w.heap.size + 1 + 1; omega), Below.heap_setCell _ _ _ _ (by show g' ≠ w3.heap.size; omega)]
    have HB6 := Lib.hid ((((HB2.out.trans (HB4.out.mono HB2.out.size)).setCell (p := ⟨w3.heap.size, 1, none⟩) (by show _ ≤ w3.heap.size; omega) (.slice (some ⟨g', 0, none⟩) (n + 1) c')).setCell (p := ⟨w.heap.size + 1 + 1, 0, none⟩) (by show _ ≤ w.heap.size + 1 + 1; omega) (.int .i64 x)).setCell (p := ⟨w.heap.size + 1 + 1, 1, none⟩) (by show _ ≤ w.heap.size + 1 + 1; omega) (.slice (some ⟨g', 0, none⟩) (n + 1) c'))
    have z5 : w.heap.size + 1 + 1 < w4.heap.size := by omega
    clear hb4 hfr hat e0 ho4 hrs
    go_wp2
    rw [HR.out]
    exact bodyPost_ret (v := .tuple #[.agg #[.int .i64 x, .slice (some ⟨g', 0, none⟩) (n + 1) c'], .int .i64 0]) (by simp [results, Try.results50, go_sem, z5, hRn, r0, r1]) rfl ⟨_, _, _, rfl, HO6.out, HB6.out⟩
end V
end Go.Proofs.Ytphobmddkphofaa

namespace Go.Proofs.Ytphobmddkphofaa
namespace V
set_option maxRecDepth 100000
open Go.RowKit
set_option maxRecDepth 100000 in
set_option maxHeartbeats 2000000 in
theorem concatPlE (b : Nat) (p1 : Option Addr) (c1 g2 o2 n2 c2 : Nat) (y : List M.Pc) (w : World) (hy : Pls w (some ⟨g2, o2, none⟩) n2 y)
    (hc0 : w.cell? ⟨b, 0, none⟩ = some (.slice p1 0 c1)) (hc1 : w.cell? ⟨b, 1, none⟩ = some (.slice (some ⟨g2, o2, none⟩) n2 c2)) (h0 : 0 < n2) (hn : n2 ≤ 1000) :
    Calls Try.prog 91 #[.slice (some ⟨b, 0, none⟩) 2 2] w fun e w' => ∃ g cc, e = .returned (.slice (some ⟨g, 0, none⟩) n2 cc) ∧ OwnPl w' w.heap.size (.slice (some ⟨g, 0, none⟩) n2 cc) y ∧ Below w.heap.size w w' := by
  have HY := Lib.hid hy
  have HLy : Hid (y.length = n2) := hy.1
  have HC0 : Hid (∀ w', Below w.heap.size w w' → w'.cell? ⟨b, 0, none⟩ = some (.slice p1 0 c1)) := fun w' hb => ckP hc0 hb
  have HC1 : Hid (∀ w', Below w.heap.size w w' → w'.cell? ⟨b, 1, none⟩ = some (.slice (some ⟨g2, o2, none⟩) n2 c2)) := fun w' hb => ckP hc1 hb
  clear hy
  go_enter Try.func91, Try.ntmps91
  go_wp2
  go_loop [3, 11] (fun sv iv => (iv = .int .i64 0 ∧ sv = .int .i64 0) ∨ (iv = .int .i64 1 ∧ sv = .int .i64 0) ∨ (iv = .int .i64 2 ∧ sv = .int .i64 (n2 : Int))) (fun _ iv => 2 - (intOf iv).toNat)
  case atStart => exact .inl ⟨rfl, rfl⟩
  case round =>
    have k2 : ¬ (n2 : Int) < 0 := by omega
    rcases hrel with ⟨rfl, rfl⟩ | ⟨rfl, rfl⟩ | ⟨rfl, rfl⟩
    · go_wp2
      go_round
      case rel => exact .inr (.inl ⟨rfl, by go_num⟩)
      case measure => simp [intOf]
    · go_wp2
      go_round
      case rel => exact .inr (.inr ⟨rfl, by go_num⟩)
      case measure => simp [intOf]
    · go_wp2_with fail
      refine (growPl n2 _ h0 hn).mono ?_
      rintro e w1 ⟨c, rfl, ho, hb⟩
      have HO := Lib.hid ho
      have HB := Lib.hid hb
      clear ho hb hc0 hc1
      go_wp2
      go_loopw [6, 27] (fun v iv wr => Hid (Below w.heap.size w wr) ∧ ((iv = .int .i64 0 ∧ v = .slice (some ⟨w.heap.size, 0, none⟩) 0 c ∧ Hid (OwnPl wr w.heap.size v [])) ∨ (iv = .int .i64 1 ∧ v = .slice (some ⟨w.heap.size, 0, none⟩) 0 c ∧ Hid (OwnPl wr w.heap.size v [])) ∨ (iv = .int .i64 2 ∧ ∃ b4 c4, v = .slice (some ⟨b4, 0, none⟩) n2 c4 ∧ Hid (OwnPl wr w.heap.size v y)))) (fun _ iv _ => 2 - (intOf iv).toNat)
      case atStart => exact ⟨HB, .inl ⟨rfl, rfl, HO⟩⟩
      case round =>
        obtain ⟨HBr, ⟨rfl, rfl, HOr⟩ | ⟨rfl, rfl, HOr⟩ | ⟨rfl, b4, c4, rfl, HOr⟩⟩ := hrel
        · have hd0 := HC0.out _ HBr.out
          go_wp2_with (at_builtin; refine Lib.wpList_append_run _ rfl (.tmp 31) (.tmp 32) 24 24 rfl _ _ rfl rfl _ _ (run_append_zero _ (some ⟨w.heap.size, 0, none⟩) 0 c p1 c1 (Nat.zero_le _) _) ?_)
          clear hd0
          go_wp2
          go_roundw
          case rel => exact ⟨HBr, .inr (.inl ⟨rfl, rfl, HOr⟩)⟩
          case measure => simp [intOf]
        · have hd1 := HC1.out _ HBr.out
          have HYr := Lib.hid (HY.out.below HBr.out)
          go_wp2_with (at_builtin; refine appendPl _ rfl (.tmp 31) (.tmp 32) rfl w.heap.size (.slice (some ⟨w.heap.size, 0, none⟩) 0 c) [] y 0 n2 g2 o2 c2 rfl rfl HOr.out (by simp) rfl HYr.out (by omega) HBr.out.size ?_)
          rintro v5 w5 ⟨g5, c5, rfl, ho5, hb5, -, -⟩
          have HO5 : Hid (OwnPl w5 w.heap.size (.slice (some ⟨g5, 0, none⟩) n2 c5) y) := by
            first | exact ho5 | (have := ho5; simp only [Nat.zero_add] at this; exact this)
          have HB5 := Lib.hid (HBr.out.trans hb5)
          clear ho5 hb5 hd1
          go_wp2
          go_roundw
          case rel => exact ⟨HB5, .inr (.inr ⟨rfl, _, _, by first | rfl | (rw [Nat.zero_add]), HO5⟩)⟩
          case measure => simp [intOf]
        · go_wp2
          go_ret
          exact ⟨_, _, rfl, HOr.out, HBr.out⟩
theorem concatAdd (b : Nat) (p1 : Option Addr) (n1 c1 g2 o2 n2 c2 : Nat) (x y : List M.Pc) (w : World) (hx : Pls w p1 n1 x) (hy : Pls w (some ⟨g2, o2, none⟩) n2 y)
    (hc0 : w.cell? ⟨b, 0, none⟩ = some (.slice p1 n1 c1)) (hc1 : w.cell? ⟨b, 1, none⟩ = some (.slice (some ⟨g2, o2, none⟩) n2 c2)) (h0 : 0 < n2) (hn : n1 + n2 ≤ 1000) :
    Calls Try.prog 91 #[.slice (some ⟨b, 0, none⟩) 2 2] w fun e w' => ∃ g cc, e = .returned (.slice (some ⟨g, 0, none⟩) (n1 + n2) cc) ∧ OwnPl w' w.heap.size (.slice (some ⟨g, 0, none⟩) (n1 + n2) cc) (x ++ y) ∧ Below w.heap.size w w' := by
  rcases Nat.eq_zero_or_pos n1 with h | h
  · subst h
    obtain rfl : x = [] := List.eq_nil_of_length_eq_zero hx.1
    rw [Nat.zero_add]
    exact concatPlE b p1 c1 g2 o2 n2 c2 y w hy hc0 hc1 h0 (by omega)
  · obtain ⟨g1, o1, -, -, -, -, rfl, -⟩ := hx.at 0 h
    exact concatPl b g1 o1 n1 c1 g2 o2 n2 c2 x y w hx hy hc0 hc1 (by omega) hn
end V
end Go.Proofs.Ytphobmddkphofaa

namespace Go.Proofs.Ytphobmddkphofaa
namespace V
set_option maxRecDepth 100000
open Go.RowKit
/-- A box sb of a graph whose places lie in memory of their own. -/
def SRel (w1 wx : World) (s : Value) (x : Int) (l : List M.Pc) : Prop :=
  ∃ (sb : Nat) (sa : Option Addr) (sn sc B : Nat) (w0 : World), s = .pointer (some ⟨sb, 0, none⟩) ∧ GBox wx sb x sa sn sc ∧ w1.heap.size ≤ sb ∧ w1.heap.size ≤ B ∧ B ≤ wx.heap.size ∧ OwnPl w0 B (.slice sa sn sc) l ∧ w0.heap.size ≤ wx.heap.size ∧ Same B w0.heap.size w0 wx ∧ ¬ (B ≤ sb ∧ sb < w0.heap.size) ∧ Below w1.heap.size w1 wx
theorem sRel_new {w1 wv : World} {sa : Option Addr} {sn sc B : Nat} {x : Int} {l : List M.Pc} {t : TypeId} (hO : OwnPl wv B (.slice sa sn sc) l) (hB : w1.heap.size ≤ B) (hB2 : B ≤ wv.heap.size) (hb : Below w1.heap.size w1 wv) : SRel w1 (wv.alloc (.cells #[.int .i64 x, .slice sa sn sc] t)) (.pointer (some ⟨wv.heap.size, 0, none⟩)) x l :=
  ⟨wv.heap.size, sa, sn, sc, B, wv, rfl, gBox_new _ _ _ _ _ _, hb.size, hB, by simp; omega, hO, by simp, fun k _ q2 => Below.heap_alloc wv _ _ q2, by omega, hb.trans ((b_alloc wv _).mono hb.size)⟩
theorem sRel_old {w1 wv : World} {sa : Option Addr} {sb sn sc B : Nat} {x : Int} {l : List M.Pc} (hR : ResG wv sb) (hs1 : w1.heap.size ≤ sb) (hs : sb < B) (hB2 : B ≤ wv.heap.size) (hO : OwnPl wv B (.slice sa sn sc) l) (hb : Below w1.heap.size w1 wv) : SRel w1 ((wv.setCell ⟨sb, 0, none⟩ (.int .i64 x)).setCell ⟨sb, 1, none⟩ (.slice sa sn sc)) (.pointer (some ⟨sb, 0, none⟩)) x l := by
  obtain ⟨r0, r1, -, -⟩ := hR
  refine ⟨sb, sa, sn, sc, B, wv, rfl, ⟨by simp [go_sem, r0, r1, cell_lt r0], by simp [go_sem, r0, r1, cell_lt r0]⟩, hs1, by omega, by simpa using hB2, hO, by simp, fun k q1 q2 => ?_, by omega, (hb.setCell (p := ⟨sb, 0, none⟩) hs1 _).setCell (p := ⟨sb, 1, none⟩) hs1 _⟩
  rw [Below.heap_setCell _ _ _ _ (by show k ≠ sb; omega), Below.heap_setCell _ _ _ _ (by show k ≠ sb; omega)]
theorem resG_dr (w : World) (t : TypeId) : ResG (w.alloc (.cells #[.int .i64 0, .slice none 0 0] t)).drew w.heap.size := ⟨by simp [go_sem], by simp [go_sem], by simp [go_sem], by simp [go_sem]⟩
end V
end Go.Proofs.Ytphobmddkphofaa

namespace Go.Proofs.Ytphobmddkphofaa.V
open Go.RowKit

set_option maxRecDepth 100000 in
set_option maxHeartbeats 400000 in
theorem likeInts (a : Option Addr) (n cap : Nat) (l : List Int) (a' : Option Addr) (n' cap' : Nat) (l' : List Int) (w : World) (h : Ints .i64 w a n l) (h' : Ints .i64 w a' n' l') (heq : l = l') :
    Calls Try.prog 29 #[.slice a n cap, .slice a' n' cap'] w fun e w' => e = .returned (.bool true) ∧ ∃ q, w' = w.drewN q := by
  subst heq
  obtain ⟨hl, hm, hr⟩ := h
  obtain ⟨hl', hm', hr'⟩ := h'
  obtain rfl : n = n' := by omega
  unfold maxLen at hm
  clear hm'
  have HL := Lib.hid hl
  clear hl hl'
  go_enter Try.func29, Try.ntmps29
  go_wp2
  go_loopw [5] (fun i wr => ∃ k : Nat, k ≤ n ∧ i = .int .i64 k ∧ ∃ q, wr = w.drewN q) (fun i _ => n - (intOf i).toNat)
  case atStart => exact ⟨0, Nat.zero_le _, rfl, 0, rfl⟩
  case round =>
    obtain ⟨k, hk, rfl, q, rfl⟩ := hrel
    by_cases hlt : k < n
    · rcases hr with h0 | ⟨b, off, rfl, hbl, hc⟩
      · omega
      rcases hr' with h0 | ⟨b', off', rfl, hbl', hc'⟩
      · omega
      have hck := hc k hlt
      have hck' := hc' k hlt
      obtain ⟨x, hx⟩ : ∃ x, x = l.getD k 0 := ⟨_, rfl⟩
      rw [← hx] at hck hck'
      clear hc hx hc'
      have hki : (k : Int) < (n : Int) := by omega
      go_wp2
      go_quiet (fail)
      go_wp2
      go_roundw
      case rel => exact ⟨k + 1, by omega, by go_num, _, rfl⟩
      case measure => simp [intOf]; omega
    · have hkn : k = n := by omega
      subst hkn
      clear hr hr'
      go_wp2
      go_ret
      exact ⟨rfl, q, rfl⟩

set_option maxRecDepth 100000 in
set_option maxHeartbeats 400000 in
theorem likeIntss (a : Option Addr) (n cap : Nat) (R : List (List Int)) (a' : Option Addr) (n' cap' : Nat) (R' : List (List Int)) (w : World) (h : Mat w a n R) (h' : Mat w a' n' R') (heq : R = R') :
    Calls Try.prog 35 #[.slice a n cap, .slice a' n' cap'] w fun e w' => e = .returned (.bool true) ∧ ∃ q, w' = w.drewN q := by
  subst heq
  have HM := Lib.hid h
  have HM' := Lib.hid h'
  obtain ⟨hl, hm, -⟩ := h
  obtain ⟨hl', -, -⟩ := h'
  obtain rfl : n = n' := by omega
  unfold maxLen at hm
  have HL := Lib.hid hl
  clear hl hl'
  go_enter Try.func35, Try.ntmps35
  go_wp2
  go_loopw [5] (fun i wr => ∃ k : Nat, k ≤ n ∧ i = .int .i64 k ∧ ∃ q, wr = w.drewN q) (fun i _ => n - (intOf i).toNat)
  case atStart => exact ⟨0, Nat.zero_le _, rfl, 0, rfl⟩
  case round =>
    obtain ⟨k, hk, rfl, q, rfl⟩ := hrel
    by_cases hlt : k < n
    · obtain ⟨b, off, ra, rc, L, l, rfl, hbl, hll, hc, hI⟩ := HM.out.at k hlt
      obtain ⟨b', off', ra', rc', L', l', rfl, hbl', hll', hc', hI'⟩ := HM'.out.at k hlt
      have HI := Lib.hid hI
      have HI' := Lib.hid hI'
      have HE := Lib.hid (hll.trans hll'.symm)
      clear hI hI' hll hll' HM HM'
      have hki : (k : Int) < (n : Int) := by omega
      go_wp2
      go_quiet ((go_at_call 29; exact q_more (likeInts _ _ _ l _ _ _ l' _ HI.out HI'.out HE.out)))
      go_wp2
      go_roundw
      case rel => exact ⟨k + 1, by omega, by go_num, _, rfl⟩
      case measure => simp [intOf]; omega
    · have hkn : k = n := by omega
      subst hkn
      go_wp2
      go_ret
      exact ⟨rfl, q, rfl⟩

/-- The same, said for the laws. -/
theorem likeM (a : Option Addr) (n cap : Nat) (R : List (List Int)) (a' : Option Addr) (n' cap' : Nat) (w : World) (h : Mat w a n R) (h' : Mat w a' n' R) :
    Calls Try.prog 35 #[.slice a n cap, .slice a' n' cap'] w fun e w' => e = .returned (.bool true) ∧ Below w.heap.size w w' := by
  refine (likeIntss _ _ _ _ _ _ _ _ _ h h' rfl).mono ?_
  rintro e w' ⟨rfl, q, rfl⟩
  exact ⟨rfl, b_draws _ _⟩
theorem likeV (a : Option Addr) (n cap : Nat) (l : List Int) (a' : Option Addr) (n' cap' : Nat) (w : World) (h : Ints .i64 w a n l) (h' : Ints .i64 w a' n' l) :
    Calls Try.prog 29 #[.slice a n cap, .slice a' n' cap'] w fun e w' => e = .returned (.bool true) ∧ Below w.heap.size w w' := by
  refine (likeInts _ _ _ _ _ _ _ _ _ h h' rfl).mono ?_
  rintro e w' ⟨rfl, q, rfl⟩
  exact ⟨rfl, b_draws _ _⟩
set_option maxRecDepth 100000 in
set_option maxHeartbeats 400000 in
theorem big (a : Option Addr) (n cap : Nat) (w : World) (h : n ≤ maxLen) :
    Calls Try.prog 17 #[.slice a n cap] w fun e w' => e = .returned (.bool (decide (4096 < n))) ∧ w = w' := by
  unfold maxLen at h
  go_enter Try.func17, Try.ntmps17
  go_wp2
  go_ret
  exact ⟨retB (decide_eq_decide.2 (by omega)), rfl⟩
end Go.Proofs.Ytphobmddkphofaa.V

namespace Go.Proofs.Ytphobmddkphofaa.V
open Go.RowKit

end Go.Proofs.Ytphobmddkphofaa.V

namespace Go.Proofs.Ytphobmddkphofaa.V
open Go.RowKit

end Go.Proofs.Ytphobmddkphofaa.V

namespace Go.Proofs.Ytphobmddkphofaa.V
open Go.RowKit

theorem ints_cells {w : World} {b off n : Nat} {l : List Int} (hc : ∀ i, i < n → w.cell? ⟨b, off + i, none⟩ = some (.int .i64 (l.getD i 0))) (hl : l.length = n) : ∀ j u, (l.map (Value.int .i64))[j]? = some u → w.cell? ((⟨b, off, none⟩ : Addr).add j) = some u := by
  intro j u hj
  have hjn : j < n := by
    by_cases e : j < n
    · exact e
    · rw [List.getElem?_eq_none (by simp; omega)] at hj; cases hj
  rw [Go.WideShapes.add_plain, hc j hjn]
  rw [← hj]
  simp [show j < l.length by omega]

set_option maxRecDepth 100000 in
set_option maxHeartbeats 1000000 in
theorem sOwn (a : Option Addr) (n cap : Nat) (l : List Int) (w : World) (h : Ints .i64 w a n l) (h0 : 0 < n) (hn : n ≤ 1000) :
    Calls Try.prog 143 #[.slice a n cap] w fun e w' => ∃ b c, e = .returned (.slice b n c) ∧ Own w' w.heap.size (.slice b n c) l ∧ Below w.heap.size w w' := by
  obtain ⟨hl, hm, hr⟩ := h
  rcases hr with hr | ⟨b, off, rfl, hb, hc⟩
  · omega
  have HL := Lib.hid hl
  have HC := Lib.hid hc
  have HO : Hid (Own (w.alloc (.cells #[] 2)) w.heap.size (.slice (some ⟨w.heap.size, 0, none⟩) 0 0) []) := own_lit0 w _ (Nat.le_refl _)
  obtain ⟨i0, hi, hz0, hz1, hz2⟩ := info_parts info64
  clear hl hc hm
  have HI := Lib.hid hi
  clear hi
  go_enter Try.func143, Try.ntmps143
  go_wp2_with (at_builtin; refine wpList_append_own_at (w := w.alloc (.cells #[] 2)) rfl (.tmp 3) (.tmp 4) 29 rfl w.heap.size 2 i0 (.int .i64 0) 1 8 Try.underlying29 HI.out hz0 hz1 hz2 rfl (by decide) (.slice (some ⟨w.heap.size, 0, none⟩) 0 0) 0 [] rfl HO.out ⟨b, off, none⟩ n cap (l.map (Value.int .i64)) rfl ?c0 ?c1 ?c2 ?c3 ?c4 ?c5 ?_)
  case c0 => have := HL.out; simp [this]
  case c1 =>
    refine ints_cells (fun i hi' => ?_) HL.out
    rw [(b_alloc w _).cell (p := ⟨b, off + i, none⟩) hb]; exact HC.out i hi'
  case c2 => intro u hu; obtain ⟨x, _, rfl⟩ := List.mem_map.1 hu; rfl
  case c3 => unfold maxLen; omega
  case c4 => omega
  case c5 => simp
  intro v' w' ho hg hz hv
  have ho' : Own w' w.heap.size v' l := by
    show w'.ownsRow w.heap.size _ 1 v' l.length (l.map (Value.int .i64))
    rw [HL.out]
    simpa using ho
  obtain ⟨b', c', rfl, _⟩ := own_form ho'
  rw [HL.out] at ho' ⊢
  have HB : Hid (Below w.heap.size w w') := (b_alloc w _).grown hg (by simp) (fun k hk => by simp [Value.ownBlock] at hk; omega)
  have HO' := Lib.hid ho'
  clear ho ho' hg hz hv
  go_wp2
  go_ret
  exact ⟨_, _, rfl, HO'.out, HB.out⟩

set_option maxRecDepth 100000 in
set_option maxHeartbeats 1000000 in
theorem sOwnM (a : Option Addr) (n cap : Nat) (R : List (List Int)) (w : World) (h : Mat w a n R) (hn : n ≤ 1000) (h0 : ∀ i, i < n → 0 < (R.getD i []).length ∧ (R.getD i []).length ≤ 1000) :
    Calls Try.prog 190 #[.slice a n cap] w (MPost n R w) := by
  have HA := Lib.hid h
  have HL := Lib.hid h.1
  have H0 := Lib.hid h0
  have hO0 : Hid (OwnM (w.alloc (.cells #[] 29)) w.heap.size (.slice (some ⟨w.heap.size, 0, none⟩) 0 0) []) := ownM_lit0 w _ (Nat.le_refl _)
  clear h h0
  go_enter Try.func190, Try.ntmps190
  go_wp2
  go_loopw [3, 4] (fun out i wr => ∃ k : Nat, k ≤ n ∧ i = .int .i64 k ∧ ∃ b c, out = .slice b k c ∧ OwnM wr w.heap.size (.slice b k c) (R.take k) ∧ Below w.heap.size w wr) (fun _ i _ => n - (intOf i).toNat)
  case atStart => exact ⟨0, Nat.zero_le _, rfl, _, _, rfl, hO0.out, b_alloc _ _⟩
  case round =>
    obtain ⟨k, hk, rfl, b, c, rfl, hO, hb⟩ := hrel
    have HO := Lib.hid hO
    have HB := Lib.hid hb
    clear hO hb hO0
    by_cases hlt : k < n
    · have hki : (k : Int) < (n : Int) := by omega
      obtain ⟨d, od, ra, rc, L, l, rfl, -, hl, hc, hI⟩ := (HA.out.below HB.out).at k hlt
      have hz := H0.out k hlt
      rw [← hl, hI.1] at hz
      obtain ⟨z1, z2⟩ := hz
      have HI := Lib.hid hI
      have HLl := Lib.hid hl
      clear hI hl
      go_wp2_with fail
      refine (sOwn _ _ _ l _ HI.out z1 z2).mono ?_
      rintro e w1 ⟨b1, c1, rfl, ho1, hb1⟩
      have HO1 := Lib.hid ho1
      have HB1 := Lib.hid hb1
      clear ho1 hb1
      have hs1 := HB.out.size
      have hlen := HO.out.len
      have HLn := Lib.hid hlen
      clear hlen
      go_wp2_with (at_builtin; refine appendRow wr _ rfl (.tmp 12) (.tmp 18) rfl w.heap.size _ _ _ _ k HO.out.len.symm rfl HO.out HB1.out HO1.out rfl (by rw [← HLn.out]; omega) hs1 ?_)
      intro b2 c2 w2 hO2 hb2 _
      have HO2 : Hid (OwnM w2 w.heap.size (.slice b2 (k + 1) c2) (R.take (k + 1))) := by
        show OwnM _ _ _ _
        rw [List.take_succ_eq_append_getElem (by have := HL.out; omega)]
        rw [HLl.out] at hO2
        simpa [show k < R.length by have := HL.out; omega] using hO2
      have HB2 := Lib.hid (HB.out.trans ((HB1.out.mono hs1).trans hb2))
      clear hO2 hb2
      go_wp2
      go_roundw
      case rel => exact ⟨k + 1, by omega, by go_num, _, _, rfl, HO2.out, HB2.out⟩
      case measure => simp [intOf]; omega
    · obtain rfl : k = n := by omega
      have hO2 := HO.out
      rw [List.take_of_length_le (by have := HL.out; omega)] at hO2
      have HO2 := Lib.hid hO2
      clear hO2
      go_wp2
      go_ret
      exact ⟨_, _, rfl, HO2.out, HB.out⟩

set_option maxRecDepth 100000 in
set_option maxHeartbeats 4000000 in
theorem sAddB (a : Option Addr) (n cap : Nat) (R : List (List Int)) (a' : Option Addr) (cap' : Nat) (R' : List (List Int)) (L : Nat) (w : World) (h : Mat w a n R) (h' : Mat w a' n R') (hr : Rect R n L) (hr' : Rect R' n L) (m1 : 1 ≤ n) (m2 : n ≤ 10) (c1 : 1 ≤ L) (c2 : L ≤ 10) :
    Calls Try.prog 170 #[.slice a n cap, .slice a' n cap'] w (MPost n (M.mk n L (fun i j => max (M.ent R i j) (M.ent R' i j))) w) := by
  have HA := Lib.hid h
  have HA' := Lib.hid h'
  have HL := Lib.hid h.1
  have HL' := Lib.hid h'.1
  have HR := Lib.hid hr
  have HR' := Lib.hid hr'
  have HE : Hid (R = M.mk n L (M.ent R)) := by
    show _ = _
    rw [← hr.1]
    exact (M.mk_self R L (fun i hi => hr.2 i (by rw [← hr.1]; exact hi))).symm
  have H0 : Hid (∀ i, i < n → 0 < (R.getD i []).length ∧ (R.getD i []).length ≤ 1000) := fun i hi => by
    rw [hr.2 i hi]; omega
  clear h h' hr hr'
  go_enter Try.func170, Try.ntmps170
  go_wp2_with fail
  refine (sOwnM _ _ _ R _ HA.out (by omega) H0.out).mono ?_
  rintro e w1 ⟨a2, cap2, rfl, ho, hb⟩
  have hO0 : OwnM w1 w.heap.size (.slice a2 n cap2) (M.mk n L (fun i j => if i < 0 then max (M.ent R i j) (M.ent R' i j) else M.ent R i j)) := by
    rw [HE.out] at ho
    exact (congrArg (OwnM _ _ _) (M.mk_congr fun i _ j _ => by rw [if_neg (Nat.not_lt_zero i)])).mp ho
  have HO0 := Lib.hid hO0
  have HB0 := Lib.hid hb
  clear ho hb hO0
  go_wp2
  go_loopw [6] (fun i wr => ∃ k : Nat, k ≤ n ∧ i = .int .i64 k ∧ OwnM wr w.heap.size (.slice a2 n cap2) (M.mk n L (fun i j => if i < k then max (M.ent R i j) (M.ent R' i j) else M.ent R i j)) ∧ Below w.heap.size w wr) (fun i _ => n - (intOf i).toNat)
  case atStart => exact ⟨0, Nat.zero_le _, rfl, HO0.out, HB0.out⟩
  case round =>
    obtain ⟨k, hk, rfl, hO, hb⟩ := hrel
    obtain ⟨wo, rfl⟩ : ∃ x, x = wr := ⟨_, rfl⟩
    have HO := Lib.hid hO
    have HB := Lib.hid hb
    clear hO hb HO0 HB0
    by_cases hlt : k < n
    · have hki : (k : Int) < (n : Int) := by omega
      have HO2 : Hid (OwnM wo w.heap.size (.slice a2 n cap2) (M.mk n L (fun i j => if i < k ∨ (i = k ∧ j < 0) then max (M.ent R i j) (M.ent R' i j) else M.ent R i j))) :=
        (congrArg (OwnM _ _ _) (M.mk_congr fun i _ j _ => by
          by_cases e : i < k
          · rw [if_pos e, if_pos (.inl e)]
          · rw [if_neg e, if_neg (by omega)])).mp HO.out
      go_wp2
      go_loopw [7] (fun j wr => ∃ t : Nat, t ≤ L ∧ j = .int .i64 t ∧ OwnM wr w.heap.size (.slice a2 n cap2) (M.mk n L (fun i j => if i < k ∨ (i = k ∧ j < t) then max (M.ent R i j) (M.ent R' i j) else M.ent R i j)) ∧ Below w.heap.size w wr) (fun j _ => L - (intOf j).toNat)
      case atStart => exact ⟨0, Nat.zero_le _, rfl, HO2.out, HB.out⟩
      case round =>
        obtain ⟨t, ht, rfl, hO, hb⟩ := hrel
        have HOi := Lib.hid hO
        have HBi := Lib.hid hb
        clear hO hb HO2 HB HO
        by_cases htl : t < L
        · have hti : (t : Int) < (L : Int) := by omega
          have hkR' : k < R'.length := by have := HL'.out; omega
          obtain ⟨g, q, L3, c3, x3, rfl, hg3, hq3, hL3, hx3, c31, c32, f31, ho3⟩ := HOi.out.at k t hlt (by rw [M.mk_rowlen _ _ _ _ hlt]; exact htl)
          rw [M.mk_rowlen _ _ _ _ hlt] at hL3
          subst hL3
          obtain ⟨d, od, rd', ro', L5, c5, x5, rfl, hL5, hx5, c51, c52⟩ := (HA'.out.below HBi.out).ent k t hlt (by rw [HR'.out.2 k hlt]; exact htl)
          rw [HR'.out.2 k hlt] at hL5
          subst hL5
          rw [M.mk_ent _ _ _ _ _ hlt htl, if_neg (by omega)] at hx3
          have HN : Hid (OwnM (wr.setCell ⟨q, t, none⟩ (.int .i64 (if x3 < x5 then x5 else x3))) w.heap.size (.slice (some ⟨g, 0, none⟩) n cap2) (M.mk n L5 (fun i j => if i < k ∨ (i = k ∧ j < t + 1) then max (M.ent R i j) (M.ent R' i j) else M.ent R i j))) := by
            refine (congrArg (OwnM _ _ _) ?_).mp (ho3 (if x3 < x5 then x5 else x3))
            rw [M.mk_set _ _ _ _ _ _ hlt]
            refine M.mk_congr fun i _ j _ => ?_
            by_cases e : i = k
            · subst e
              rw [if_pos rfl]
              by_cases e2 : j = t
              · subst e2; rw [if_pos rfl, ← M.ifmax, if_pos (.inr ⟨rfl, by omega⟩), hx3, hx5]; rfl
              · rw [if_neg e2]
                by_cases e3 : j < t
                · rw [if_pos (.inr ⟨rfl, e3⟩), if_pos (.inr ⟨rfl, by omega⟩)]
                · rw [if_neg (by omega), if_neg (by omega)]
            · rw [if_neg e]
              by_cases e3 : i < k
              · rw [if_pos (.inl e3), if_pos (.inl e3)]
              · rw [if_neg (by omega), if_neg (by omega)]
          clear ho3 hx3 hx5 hkR'
          go_wp2
          go_still_tail 21, (by kernel_rfl)
          change wpList _ _ _ _ _ wr.drew
          go_wp2
          first
            | exact ⟨⟨t + 1, by omega, by go_num, HN.out.keep (fun _ _ _ => rfl), HBi.out.drew.setCell hq3 _⟩, by simp [intOf]; omega⟩
            | (have HN2 := HN.out
               rw [← M.ifmax] at HN2
               exact ⟨⟨t + 1, by omega, by go_num, HN2.keep (fun _ _ _ => rfl), HBi.out.drew.setCell hq3 _⟩, by simp [intOf]; omega⟩)
        · obtain rfl : t = L := by omega
          have HO2 : Hid (OwnM wr w.heap.size (.slice a2 n cap2) (M.mk n t (fun i j => if i < k + 1 then max (M.ent R i j) (M.ent R' i j) else M.ent R i j))) :=
            (congrArg (OwnM _ _ _) (M.mk_congr fun i _ j hj => by
              by_cases e : i < k + 1
              · rw [if_pos e, if_pos (by omega)]
              · rw [if_neg e, if_neg (by omega)])).mp HOi.out
          obtain ⟨g, o, ra, rc, L3, l3, rfl, -, hl3, hc3, hI3⟩ := HOi.out.mat.at k hlt
          have e3 : L3 = t := by rw [← hI3.1, hl3, M.mk_rowlen _ _ _ _ hlt]
          subst e3
          clear hl3 hI3
          go_wp2
          go_roundw
          case rel => exact ⟨k + 1, by omega, by go_num, HO2.out, HBi.out⟩
          case measure => simp [intOf]; omega
    · obtain rfl : k = n := by omega
      go_wp2
      go_ret
      refine ⟨_, _, rfl, ?_, HB.out⟩
      exact (congrArg (OwnM _ _ _) (M.mk_congr fun i hi j _ => by rw [if_pos hi])).mp HO.out
theorem sAddM (a : Option Addr) (n cap : Nat) (R : List (List Int)) (a' : Option Addr) (n' cap' : Nat) (R' : List (List Int)) (w : World) (h : Mat w a n R) (h' : Mat w a' n' R') (hR : M.isMat R = true) (hR' : M.isMat R' = true) (hl : n = n') (hw : M.wid R = M.wid R') :
    Calls Try.prog 170 #[.slice a n cap, .slice a' n' cap'] w (MPost n (M.addM R R') w) := by
  subst hl
  obtain ⟨m1, m2, c1, c2, -, -⟩ := M.isMat_t hR
  have e1 := h.1
  have e2 := h'.1
  have t1 := rect_mat hR
  have t2 := rect_mat hR'
  rw [e1] at t1 m1 m2
  rw [e2, ← hw] at t2
  have := sAddB a n cap R a' cap' R' _ w h h' t1 t2 m1 m2 c1 c2
  unfold M.addM
  rw [e1]
  exact this

end Go.Proofs.Ytphobmddkphofaa.V

namespace Go.Proofs.Ytphobmddkphofaa.V
open Go.RowKit




set_option maxRecDepth 100000 in
set_option maxHeartbeats 400000 in
theorem sWithin (n : Nat) (a' : Option Addr) (N cap' : Nat) (l : List Int) (w : World) (hn : n ≤ 1000) (h : Ints .i64 w a' N l) :
    Calls Try.prog 114 #[.slice a' N cap', .int .i64 N, .int .i64 0, .int .i64 ((n : Int) - 1)] w fun e w' => e = .returned (.bool (M.nodesB n l)) ∧ w = w' := by
  obtain ⟨hl, hm, hr⟩ := h
  unfold maxLen at hm
  have HL := Lib.hid hl
  clear hl
  go_enter Try.func114, Try.ntmps114
  go_wp2
  go_loop [9] (fun i => ∃ k : Nat, k ≤ N ∧ i = .int .i64 k ∧ Hid ((l.take k).all (M.inN n) = true)) (fun i => N - (intOf i).toNat)
  case atStart => exact ⟨0, Nat.zero_le _, rfl, rfl⟩
  case round =>
    obtain ⟨k, hk, rfl, HA⟩ := hrel
    by_cases hlt : k < N
    · rcases hr with h0 | ⟨b, off, rfl, hbl, hc⟩
      · omega
      · have hck := hc k hlt
        have hsn := M.take_snoc l k (by have := HL.out; omega)
        obtain ⟨x, hx⟩ : ∃ x, x = l.getD k 0 := ⟨_, rfl⟩
        rw [← hx] at hck hsn
        have HX := Lib.hid hx
        have HS := Lib.hid hsn
        clear hc hx hsn
        obtain ⟨q, hq⟩ : ∃ q, q = M.inN n x := ⟨_, rfl⟩
        have HQ : Hid ((decide (0 ≤ x) && decide (x ≤ (n : Int) - 1)) = q) := by
          show _ = _; rw [hq]; unfold M.inN
          rw [Bool.eq_iff_iff]; simp; omega
        have HC : ∀ w : World, Calls Try.prog 89 #[.int .i64 x, .int .i64 0, .int .i64 ((n : Int) - 1)] w fun e w' => e = .returned (.bool q) ∧ w = w' := by
          intro w
          have := sIn x 0 ((n : Int) - 1) w
          rw [HQ.out] at this
          exact this
        cases q with
        | true =>
          have HA2 : Hid ((l.take (k + 1)).all (M.inN n) = true) := by show _ = _; rw [HS.out, M.all_snoc, HA.out, ← hq]; rfl
          clear hq
          go_wp2_with (go_at_call 89; refine (HC _).mono ?_; rintro e w' ⟨rfl, rfl⟩)
          go_round
          case rel => exact ⟨k + 1, by omega, by go_num, HA2⟩
          case measure => simp [intOf]; omega
        | false =>
          have HF : Hid (l.all (M.inN n) = false) := M.all_false _ l k (by have := HL.out; omega) (by rw [← HX.out]; exact hq.symm)
          clear hq
          go_wp2_with (go_at_call 89; refine (HC _).mono ?_; rintro e w' ⟨rfl, rfl⟩)
          go_ret
          exact ⟨retB HF.out.symm, rfl⟩
    · have hkn : k = N := by omega
      subst hkn
      have HT : Hid (l.take k = l) := M.take_all l k (by have := HL.out; omega)
      clear hr
      go_wp2
      go_ret
      exact ⟨retB (by have h2 := HA.out; rw [HT.out] at h2; exact h2.symm), rfl⟩
end Go.Proofs.Ytphobmddkphofaa.V
