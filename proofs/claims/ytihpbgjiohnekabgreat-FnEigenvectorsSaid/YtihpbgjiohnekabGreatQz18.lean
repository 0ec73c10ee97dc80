/- Texts laid together: Shv, Cty, Sct, Cert, Draw1, Draw2, DrawM, DrawM2. -/
import Derived.Test.YtihpbgjiohnekabGreatQz16
import Derived.Test.YtihpbgjiohnekabGreatQz7
import Derived.Test.YtihpbgjiohnekabGreatQz4
import Derived.Test.YtihpbgjiohnekabGreatQz9
import Derived.Test.YtihpbgjiohnekabGreatQz17
import Derived.Test.YtihpbgjiohnekabGreatQz14
import Derived.Test.YtihpbgjiohnekabGreatRows
import Derived.Test.YtihpbgjiohnekabGreatQz1
import Derived.Test.YtihpbgjiohnekabGreatQz3
import Derived.WalkKit
import Derived.ProofKit
import Derived.WalkSmall
import Derived.Deep.QuietTactic
import Derived.BigQuiet
import Derived.BigRegion
import Derived.Deep.Draws
import Derived.Deep.OwnRows
import Derived.Lib.Hide
import Derived.OpenShut
import Derived.Deep.RegionHeld3
set_option linter.unusedSimpArgs false
set_option linter.unusedVariables false
set_option linter.unusedSectionVars false
namespace Go.Proofs.YtihpbgjiohnekabGreat.V
set_option maxRecDepth 100000
open Go.RowKit
/-- A number that is so small that no sum of two overflows. -/
def Wid (v : Int) : Prop := -2000000000000000 ≤ v ∧ v ≤ 2000000000000000
theorem wid_val {v : Int} (h : M.isVal v = true) : Wid v := by have := M.isVal_t h; unfold Wid; omega
set_option maxRecDepth 100000 in
set_option maxHeartbeats 400000 in
theorem timesW (a b : Int) (w : World) (ha : Wid a) (hb : Wid b) : Calls Tryz.prog 179 #[.int .i64 a, .int .i64 b] w fun e w' => e = .returned (.int .i64 (M.times a b)) ∧ w = w' := by
  obtain ⟨ba1, ba2⟩ := ha
  obtain ⟨bb1, bb2⟩ := hb
  by_cases h : a = -1000000000000000
  · subst h
    go_enter Tryz.func179, Tryz.ntmps179
    go_wp2
    all_goals go_ret; exact ⟨retI (by simp [M.times]), rfl⟩
  · have h' : (a == -1000000000000000) = false := by simpa using h
    by_cases h2 : b = -1000000000000000
    · subst h2
      go_enter Tryz.func179, Tryz.ntmps179
      go_wp2
      all_goals go_ret; exact ⟨retI (by simp [M.times]), rfl⟩
    · have h2' : (b == -1000000000000000) = false := by simpa using h2
      go_enter Tryz.func179, Tryz.ntmps179
      go_wp2
      all_goals go_ret; exact ⟨retI (by simp [M.times, h, h2]), rfl⟩
set_option maxRecDepth 100000 in
set_option maxHeartbeats 400000 in
theorem sTimesW (a b : Int) (w : World) (ha : Wid a) (hb : Wid b) : Calls Tryz.prog 151 #[.int .i64 a, .int .i64 b] w fun e w' => e = .returned (.int .i64 (M.times a b)) ∧ w = w' := by
  obtain ⟨ba1, ba2⟩ := ha
  obtain ⟨bb1, bb2⟩ := hb
  by_cases h : a = -1000000000000000
  · subst h
    go_enter Tryz.func151, Tryz.ntmps151
    go_wp2
    all_goals go_ret; exact ⟨retI (by simp [M.times]), rfl⟩
  · have h' : (a == -1000000000000000) = false := by simpa using h
    by_cases h2 : b = -1000000000000000
    · subst h2
      go_enter Tryz.func151, Tryz.ntmps151
      go_wp2
      all_goals go_ret; exact ⟨retI (by simp [M.times]), rfl⟩
    · have h2' : (b == -1000000000000000) = false := by simpa using h2
      go_enter Tryz.func151, Tryz.ntmps151
      go_wp2
      all_goals go_ret; exact ⟨retI (by simp [M.times, h, h2]), rfl⟩
/-- The first k elements of a list of n that is being filled. -/
def vPart (n : Nat) (f : Nat → Int) (k : Nat) : List Int := (List.range n).map fun j => if j < k then f j else 0
theorem vPart_zero (n : Nat) (f : Nat → Int) : vPart n f 0 = (List.range n).map fun _ => 0 := by simp [vPart]
theorem vPart_end (n : Nat) (f : Nat → Int) : vPart n f n = (List.range n).map f := List.map_congr_left fun j hj => by simp [List.mem_range.1 hj]
theorem vPart_set (n : Nat) (f : Nat → Int) (k : Nat) : (vPart n f k).set k (f k) = vPart n f (k + 1) := by
  unfold vPart
  rw [M.map_set]
  refine List.map_congr_left fun j _ => ?_
  by_cases e : j = k
  · subst e; rw [if_pos rfl, if_pos (by omega)]
  · rw [if_neg e]
    by_cases e2 : j < k
    · rw [if_pos e2, if_pos (by omega)]
    · rw [if_neg e2, if_neg (by omega)]
theorem shv_map (l : List Int) (g : Int) : M.shvL l g = (List.range l.length).map fun j => M.times (l.getD j 0) g := by
  refine M.list_ext0 (by rw [M.shv_len]; simp) fun i hi => ?_
  rw [M.shv_len] at hi
  rw [M.shv_get hi]
  simp [hi]
set_option maxRecDepth 100000 in
set_option maxHeartbeats 400000 in
theorem clTimesW (a b : Int) (w : World) (ha : Wid a) (hb : Wid b) : Calls Tryz.prog 196 #[.int .i64 a, .int .i64 b] w fun e w' => e = .returned (.int .i64 (M.times a b)) ∧ w = w' := by
  have HA := Lib.hid ha
  have HB := Lib.hid hb
  clear ha hb
  go_enter Tryz.func196, Tryz.ntmps196
  go_wp2_with (first | (go_at_call 179; refine (timesW _ _ _ HA.out HB.out).mono ?_; rintro e w' ⟨rfl, rfl⟩))
  go_ret
  exact ⟨rfl, rfl⟩
theorem fld1s : ∀ w : World, (Instr.field 146 (.agg #[.func (.func 194) #[] #[], .func (.func 196) #[] #[]]) 1).run Tryz.prog w = .ok (.func (.func 196) #[] #[]) w := fun w => by simp [Instr.field, part, asAgg, go_sem]
set_option maxRecDepth 100000 in
set_option maxHeartbeats 4000000 in
theorem shiftedList (a : Option Addr) (n cap : Nat) (l : List Int) (g : Int) (w : World) (h : Ints .i64 w a n l) (hn : n ≤ 1000) (hl : ∀ k, k < n → Wid (l.getD k 0)) (hg : Wid g) :
    Calls Tryz.prog 134 #[.slice a n cap, .int .i64 g] w fun e w' => ∃ b, e = .returned (.slice b n n) ∧ Own w' w.heap.size (.slice b n n) (M.shvL l g) ∧ Below w.heap.size w w' := by
  have HI := Lib.hid h
  have HL := Lib.hid hl
  have HG := Lib.hid hg
  have HE : Hid (M.shvL l g = (List.range n).map fun j => M.times (l.getD j 0) g) := by show _ = _; rw [shv_map, h.1]
  have hmk := run_make_row' (P := Tryz.prog) 29 2 (.int .i64 0) 8 Tryz.underlying29 info64 rfl .i64 .i64 n (by omega) (by omega)
  have hfld := fld1s
  clear h hl hg
  go_enter Tryz.func134, Tryz.ntmps134
  go_wp2_with fail
  refine (maxPlus _).mono ?_
  rintro e w1 ⟨rfl, hb1⟩
  have HB1 := Lib.hid hb1
  have hz1 : w.heap.size ≤ w1.heap.size := hb1.size
  clear hb1
  go_wp2
  clear hmk hfld
  go_loopw [7, 8, 16] (fun _ _ i wr => ∃ k : Nat, k ≤ n ∧ i = .int .i64 k ∧ Own wr w1.heap.size (.slice (some ⟨w1.heap.size, 0, none⟩) n n) (vPart n (fun j => M.times (l.getD j 0) g) k) ∧ Below w1.heap.size w1 wr) (fun _ _ i _ => n - (intOf i).toNat)
  case atStart => exact ⟨0, Nat.zero_le _, rfl, by rw [vPart_zero]; exact own_made w1 _ n (Nat.le_refl _) (by unfold maxLen; omega), b_alloc _ _⟩
  case round =>
    obtain ⟨k, hk, rfl, hO, hb⟩ := hrel
    have HO := Lib.hid hO
    have HB := Lib.hid hb
    clear hO hb
    by_cases hlt : k < n
    · have hki : (k : Int) < (n : Int) := by omega
      obtain ⟨b, off, x, rfl, -, hx, hc⟩ := ((HI.out.below HB1.out).below HB.out).at k hlt
      have hWx := HL.out k hlt
      rw [← hx] at hWx
      have HW := Lib.hid hWx
      obtain ⟨v, hst⟩ : ∃ v, wr.cell? ⟨w1.heap.size, k, none⟩ = some v := ⟨_, HO.out.cellAt k hlt⟩
      have hfz := HO.out.frozenAt k
      have HN : Hid (Own (wr.setCell ⟨w1.heap.size, k, none⟩ (.int .i64 (M.times x g))) w1.heap.size (.slice (some ⟨w1.heap.size, 0, none⟩) n n) (vPart n (fun j => M.times (l.getD j 0) g) (k + 1))) := by
        show Own _ _ _ _
        have := Own.set HO.out k (M.times x g)
        rw [hx, vPart_set n (fun j => M.times (l.getD j 0) g) k, ← hx] at this
        exact this
      clear hx hWx HO
      go_wp2_with (go_at_call 196; refine (clTimesW _ _ _ HW.out HG.out).mono ?_; rintro e w' ⟨rfl, rfl⟩)
      go_roundw
      case rel => exact ⟨k + 1, by omega, by go_num, HN.out, HB.out.setCell (Nat.le_refl _) _⟩
      case measure => simp [intOf]; omega
    · obtain rfl : k = n := by omega
      go_wp2
      go_ret
      exact ⟨_, rfl, by rw [HE.out, ← vPart_end]; exact HO.out.mono hz1, HB1.out.trans (HB.out.mono hz1)⟩
set_option maxRecDepth 100000 in
set_option maxHeartbeats 400000 in
theorem shiftVector (a : Option Addr) (n cap : Nat) (l : List Int) (g : Int) (w : World) (h : Ints .i64 w a n l) :
    Calls Tryz.prog 61 #[.slice a n cap, .int .i64 g] w (VRes (M.shvRes l g) w) := by
  have HI := Lib.hid h
  obtain ⟨v1, hv1⟩ : ∃ v, v = M.isVec l := ⟨_, rfl⟩
  have HV1 := Lib.hid hv1.symm
  cases v1 with
  | false =>
    have HE : Hid (M.shvRes l g = ([], 1)) := by show _ = _; unfold M.shvRes; rw [← hv1]; rfl
    clear h hv1
    go_enter Tryz.func61, Tryz.ntmps61
    go_wp2_with fail
    refine (isVector_b _ _ _ l _ false HV1.out HI.out).mono ?_
    rintro e w' ⟨rfl, rfl⟩
    go_wp2
    go_ret2
    exact VRes.nil HE.out (Below.refl _ _)
  | true =>
    obtain ⟨-, n2⟩ := ints_vec h hv1.symm
    have HW : Hid (∀ k, k < n → Wid (l.getD k 0)) := fun k hk => wid_val ((M.isVec_t hv1.symm).2.2 k (by rw [h.1]; exact hk))
    obtain ⟨v2, hv2⟩ : ∃ v, v = M.isFin g := ⟨_, rfl⟩
    have HC : Hid (∀ w, Calls Tryz.prog 132 #[.int .i64 g] w fun e w' => e = .returned (.bool v2) ∧ w = w') := fun w => by rw [hv2]; exact isFinite g w
    cases v2 with
    | false =>
      have HE : Hid (M.shvRes l g = ([], 2)) := by show _ = _; unfold M.shvRes; rw [← hv1, ← hv2]; rfl
      clear h hv1 hv2
      go_enter Tryz.func61, Tryz.ntmps61
      go_wp2_with fail
      refine (isVector_b _ _ _ l _ true HV1.out HI.out).mono ?_
      rintro e w' ⟨rfl, rfl⟩
      go_wp2_with fail
      refine (HC.out _).mono ?_
      rintro e w' ⟨rfl, rfl⟩
      go_wp2
      go_ret2
      exact VRes.nil HE.out (Below.refl _ _)
    | true =>
      have HG : Hid (Wid g) := by
        have : M.isFin g = true := hv2.symm
        unfold M.isFin at this
        simp at this
        exact ⟨by omega, by omega⟩
      obtain ⟨v3, hv3⟩ : ∃ v, v = M.isVec (M.shvL l g) := ⟨_, rfl⟩
      have HV3 := Lib.hid hv3.symm
      have HE : Hid (M.shvRes l g = if v3 then (M.shvL l g, 0) else ([], 3)) := by show _ = _; unfold M.shvRes; rw [← hv1, ← hv2, hv3]; rfl
      clear h hv1 hv2 hv3
      go_enter Tryz.func61, Tryz.ntmps61
      go_wp2_with fail
      refine (isVector_b _ _ _ l _ true HV1.out HI.out).mono ?_
      rintro e w' ⟨rfl, rfl⟩
      go_wp2_with fail
      refine (HC.out _).mono ?_
      rintro e w' ⟨rfl, rfl⟩
      go_wp2_with fail
      refine (shiftedList _ _ _ l g _ HI.out (by omega) HW.out HG.out).mono ?_
      rintro e w1 ⟨b1, rfl, ho, hb⟩
      have HO := Lib.hid ho
      have HB := Lib.hid hb
      clear ho hb
      cases v3 with
      | false =>
        go_wp2_with fail
        refine (checkedVector_f _ _ _ (M.shvL l g) _ HV3.out HO.out.ints').mono ?_
        rintro e w' ⟨rfl, rfl⟩
        go_wp2
        go_ret2
        exact VRes.nil HE.out HB.out
      | true =>
        go_wp2_with fail
        refine (checkedVector_t _ _ _ (M.shvL l g) _ HV3.out HO.out.ints').mono ?_
        rintro e w' ⟨rfl, rfl⟩
        go_wp2
        go_ret2
        rw [HE.out]
        exact ⟨_, _, _, rfl, HO.out, HB.out⟩
end Go.Proofs.YtihpbgjiohnekabGreat.V

namespace Go.Proofs.YtihpbgjiohnekabGreat
namespace V
set_option maxRecDepth 100000
open Go.RowKit
/-- A ratio, two slices, made one after the other, and a code. -/
def CPost4 (r : (Int × Int) × List Int × List Int × Int) (w : World) (e : Ending) (w' : World) : Prop :=
  ∃ (wm : World) (b : Option Addr) (m c : Nat) (b' : Option Addr) (m' c' : Nat), e = .returned (.tuple #[.agg #[.int .i64 r.1.1, .int .i64 r.1.2], .slice b m c, .slice b' m' c', .int .i64 r.2.2.2]) ∧ Own wm w.heap.size (.slice b' m' c') r.2.2.1 ∧ Below w.heap.size w wm ∧ Own w' wm.heap.size (.slice b m c) r.2.1 ∧ Below wm.heap.size wm w'
theorem CPost4.nil {r : (Int × Int) × List Int × List Int × Int} {c : Int} {w w' : World} (hr : r = ((0, 0), [], [], c)) (hb : Below w.heap.size w w') : CPost4 r w (.returned (.tuple #[.agg #[.int .i64 0, .int .i64 0], .slice none 0 0, .slice none 0 0, .int .i64 c])) w' := by
  subst hr; exact ⟨w, none, 0, 0, none, 0, 0, rfl, own_nil _ _, Below.refl _ _, own_nil _ _, hb⟩
theorem below_set2 {a b : World} {B : Nat} (h : Below B a b) (p : Addr) (hp : p.block < B) (v : Value) : Below B (a.setCell p v) (b.setCell p v) := by
  refine ⟨h.os, h.tape, h.output, by simpa [World.setCell] using h.size, fun k hk => ?_⟩
  have e := h.block k hk
  unfold World.setCell
  simp only [Array.getElem?_modify, e]
theorem low3' {B : Nat} {w1 w2 : World} {P Q : Prop} (h : P ∧ Q ∧ Below B w1 w2) : Below B w1 w2 := h.2.2
theorem keepB {w0 w1 w2 : World} {B b i j : Nat} {x y : Value} (hB : B ≤ w0.heap.size) (h : w1.cell? ⟨b, i, none⟩ = some x ∧ w1.cell? ⟨b, j, none⟩ = some y ∧ Below B w0 w1) (hb : Below w1.heap.size w1 w2) : w2.cell? ⟨b, i, none⟩ = some x ∧ w2.cell? ⟨b, j, none⟩ = some y ∧ Below B w0 w2 := by
  have hs := h.2.2.size
  exact ⟨(hb.cell (p := ⟨b, i, none⟩) (cell_lt h.1)).trans h.1, (hb.cell (p := ⟨b, j, none⟩) (cell_lt h.2.1)).trans h.2.1, h.2.2.trans (hb.mono (by omega))⟩
theorem keepS {w0 w1 : World} {B b i j c k l : Nat} {x y u v : Value} (hc : c ≠ b) (hB : B ≤ c) (h : w1.cell? ⟨b, i, none⟩ = some x ∧ w1.cell? ⟨b, j, none⟩ = some y ∧ Below B w0 w1) :
    ((w1.setCell ⟨c, k, none⟩ u).setCell ⟨c, l, none⟩ v).cell? ⟨b, i, none⟩ = some x ∧ ((w1.setCell ⟨c, k, none⟩ u).setCell ⟨c, l, none⟩ v).cell? ⟨b, j, none⟩ = some y ∧ Below B w0 ((w1.setCell ⟨c, k, none⟩ u).setCell ⟨c, l, none⟩ v) := by
  have e : ((w1.setCell ⟨c, k, none⟩ u).setCell ⟨c, l, none⟩ v).heap[b]? = w1.heap[b]? := (Below.heap_setCell _ ⟨c, l, none⟩ _ b (Ne.symm hc)).trans (Below.heap_setCell _ ⟨c, k, none⟩ _ b (Ne.symm hc))
  exact ⟨(World.cell?_of_block (w := w1) (a := ⟨b, i, none⟩) e).trans h.1, (World.cell?_of_block (w := w1) (a := ⟨b, j, none⟩) e).trans h.2.1, (h.2.2.setCell (p := ⟨c, k, none⟩) hB u).setCell (p := ⟨c, l, none⟩) hB v⟩
set_option maxRecDepth 100000 in
set_option maxHeartbeats 4000000 in
theorem certifyMean (a : Option Addr) (n cap : Nat) (R : List (List Int)) (w : World) (h : Mat w a n R) :
    Calls Tryz.prog 25 #[.slice a n cap] w (CPost4 (M.certRes R) w) := by
  have HA := Lib.hid h
  have hRn : R.length = n := h.1
  have HB0 : Hid (Below w.heap.size w (w.alloc (.cells #[.int .i64 0, .int .i64 0] 26))) := b_alloc _ _
  by_cases hc : (M.cycMeanRes R).2 = 0
  · obtain ⟨c, L, hs, hcyc, hnear, hp, hq, hcl, hvx, hov⟩ := M.eig_t hc
    have hcm := (M.cyc_t hc).2.2.2
    rw [hRn] at hcyc hnear hp hcl hov hcm
    obtain ⟨hr, n1, n2, hsm⟩ := sq_parts h hs
    have HR := Lib.hid hr
    have HSm := Lib.hid hsm
    obtain ⟨r, hrr⟩ : ∃ r, r = M.bestR (M.ent R) n := ⟨_, rfl⟩
    rw [← hrr] at hnear hp hov hcm
    have HNear := Lib.hid hnear
    have HP := Lib.hid hp
    have HOv := Lib.hid hov
    have HCm := Lib.hid hcm
    obtain ⟨r1, r2⟩ := r
    have HBm : Hid (∀ i j, i < n → j < n → M.Sm 1000001000000 (M.bestF (M.shf (M.ent R) r1 r2) n i j)) := fun i j hi hj => by
      unfold M.bestF
      split
      · exact M.sh_sm HSm.out HNear.out i j hi hj
      · exact .inl rfl
    obtain ⟨p, hpp⟩ : ∃ p, p = M.potRes R r1 r2 := ⟨_, rfl⟩
    have HPp := Lib.hid hpp.symm
    have hE : M.certRes R = if p.2 = 0 then ((r1, r2), M.bestCyc R, p.1, 0) else ((0, 0), [], [], p.2) := by
      unfold M.certRes; rw [if_pos hc, hcm, hpp]
    have HE := Lib.hid hE
    obtain ⟨pl, pc⟩ := p
    generalize M.bestCyc R = q at *
    clear h hc hs hcyc hnear hp hq hvx hov hcm hr hsm hrr hpp hE hRn hcl
    by_cases hpc : pc = 0
    · subst hpc
      go_enter Tryz.func25, Tryz.ntmps25
      go_wp2_with fail
      refine (cycleMean _ _ _ R _ (HA.out.below HB0.out)).mono ?_
      rintro e w1 ⟨rfl, hb⟩
      rw [HCm.out]
      have HB1 := Lib.hid hb
      clear hb
      obtain ⟨wb, hwb⟩ : ∃ x, x = w1.alloc (rbox r1 r2) := ⟨_, rfl⟩
      have HX : Hid (Boxed w1 wb r1 r2) := by show Boxed _ _ _ _; rw [hwb]; exact boxed _ _ _
      have HBx := Lib.hid (HB1.out.trans (HX.out.below.mono HB1.out.size))
      have HBy := Lib.hid (HB0.out.trans (HBx.out.mono HB0.out.size))
      go_wp2_with fail
      change Calls _ _ _ (w1.alloc (rbox r1 r2)) _
      rw [← hwb]
      clear hwb
      refine (potentialOf _ _ _ R r1 r2 _ (HA.out.below HBy.out)).mono ?_
      rintro e w2 ⟨b2, m2, c2, rfl, ho, hb⟩
      rw [HPp.out] at ho ⊢
      have HO2 := Lib.hid ho
      have HB2 := Lib.hid hb
      have HBz := Lib.hid (HBy.out.trans (hb.mono HBy.out.size))
      obtain ⟨p0, p1⟩ := HX.out.cells hb
      clear ho hb
      go_wp2
      have HBw := Lib.hid (HBx.out.trans (HB2.out.mono HBx.out.size))
      have hzq : w1.heap.size < w2.heap.size := by have := HB2.out.size; have := HX.out.size; omega
      have hwz : w.heap.size ≤ w2.heap.size := HBz.out.size
      have hwne : w.heap.size ≠ w1.heap.size := by have := HB1.out.size; simp at this; omega
      go_region_held3 (fun w' => w'.cell? ⟨w1.heap.size, 0, none⟩ = some (.int .i64 r1) ∧ w'.cell? ⟨w1.heap.size, 1, none⟩ = some (.int .i64 r2) ∧ Below w.heap.size w2 w') (first | exact ⟨p0, p1, (Below.refl _ _).drew⟩ | exact keepB hwz ‹_ ∧ _ ∧ Below _ _ _› hb | exact keepS hwne (Nat.le_refl _) ‹_ ∧ _ ∧ Below _ _ _›) (first | (go_at_call 91; refine (bestArcs _ _ _ R r1 r2 _ ?hm HR.out n1 n2 HSm.out HNear.out HP.out).mono ?_; (case hm => exact HA.out.below (HBz.out.trans (V.low3' ‹_ ∧ _ ∧ Below _ _ _›))); rintro e w3 ⟨b3, c3, rfl, ho, hb⟩; have HSq3 : Hid (Sq w3 b3 n (M.mk n n (M.bestF (M.shf (M.ent R) r1 r2) n))) := ⟨ho.mat, rect_mk _ _ _, fun i j hi hj => (by rw [M.ent_mk _ _ _ _ _ hi hj]; exact HBm.out i j hi hj), n1, n2⟩; have HB3 : Hid (Below w2.heap.size w2 w3) := (by first | exact hb | exact ((Below.refl w2.heap.size w2).drew).trans hb | exact (below_drewN (Below.refl w2.heap.size w2) _).trans hb); clear ho) | (go_at_call 90; refine (smallestCycle0 _ _ _ (M.mk n n (M.bestF (M.shf (M.ent R) r1 r2) n)) _ ?hm2).mono ?_; (case hm2 => exact HSq3.out); rintro e w4 ⟨b4, n4, c4, rfl, ho, hb⟩; rw [M.over_congr (A := M.bestF (M.shf (M.ent R) r1 r2) n) n2 HBm.out fun i j hi hj => M.ent_mk _ _ _ _ _ hi hj, HOv.out] at ho; have HO4 := Lib.hid ho; have HB4 := Lib.hid (HB3.out.trans (hb.mono HB3.out.size)); have hb8 := HBw.out.trans (HB4.out.mono HBw.out.size); have hz8 := hb8.size; simp at hz8; have HB8 := Lib.hid hb8; obtain ⟨hcc, hff⟩ := bcell hb8; have z1 : w.heap.size < w4.heap.size := (by omega); clear ho hb8))
      all_goals (try go_wp2)
      all_goals
        have hlt2 : w.heap.size < w2.heap.size := by have := HBx.out.size; have := HB2.out.size; simp at *; omega
        have hHE : M.certRes R = ((r1, r2), q, pl, 0) := HE.out
        refine bodyPost_ret (v := .tuple #[.agg #[.int .i64 r1, .int .i64 r2], .slice b4 n4 c4, .slice b2 m2 c2, .int .i64 0]) (by simp [results, Tryz.results25, go_sem, z1, hcc]) rfl ?_
        rw [hHE]
        refine ⟨(w2.setCell ⟨w.heap.size, 0, none⟩ (.int .i64 r1)).setCell ⟨w.heap.size, 1, none⟩ (.int .i64 r2), b4, n4, c4, b2, m2, c2, rfl, ?_, ?_, ?_, ?_⟩
        · refine (HO2.out.keep fun k k1 _ => ?_).mono HBy.out.size
          have k2 : w.heap.size ≠ k := by have := HBx.out.size; simp at this; omega
          exact (Below.heap_setCell _ _ _ k k2.symm).trans (Below.heap_setCell _ _ _ k k2.symm)
        · exact (HBz.out.setCell (p := ⟨w.heap.size, 0, none⟩) (Nat.le_refl _) _).setCell (p := ⟨w.heap.size, 1, none⟩) (Nat.le_refl _) _
        · refine (HO4.out.keep fun k k1 _ => ?_).mono ?_
          · have k2 : w.heap.size ≠ k := by have := HB3.out.size; omega
            exact (Below.heap_setCell _ _ _ k k2.symm).trans (Below.heap_setCell _ _ _ k k2.symm)
          · have := HB3.out.size; simpa [World.setCell] using this
        · have e := below_set2 (below_set2 HB4.out ⟨w.heap.size, 0, none⟩ hlt2 (.int .i64 r1)) ⟨w.heap.size, 1, none⟩ hlt2 (.int .i64 r2)
          simpa [World.setCell] using e
    · have HEE : Hid (M.certRes R = ((0, 0), [], [], pc)) := HE.out.trans (if_neg hpc)
      have hpb : (pc != 0) = true := by simpa using hpc
      go_enter Tryz.func25, Tryz.ntmps25
      go_wp2_with fail
      refine (cycleMean _ _ _ R _ (HA.out.below HB0.out)).mono ?_
      rintro e w1 ⟨rfl, hb⟩
      rw [HCm.out]
      have HB1 := Lib.hid hb
      clear hb
      obtain ⟨wb, hwb⟩ : ∃ x, x = w1.alloc (rbox r1 r2) := ⟨_, rfl⟩
      have HX : Hid (Boxed w1 wb r1 r2) := by show Boxed _ _ _ _; rw [hwb]; exact boxed _ _ _
      have HBx := Lib.hid (HB1.out.trans (HX.out.below.mono HB1.out.size))
      have HBy := Lib.hid (HB0.out.trans (HBx.out.mono HB0.out.size))
      go_wp2_with fail
      change Calls _ _ _ (w1.alloc (rbox r1 r2)) _
      rw [← hwb]
      clear hwb
      refine (potentialOf _ _ _ R r1 r2 _ (HA.out.below HBy.out)).mono ?_
      rintro e w2 ⟨b2, m2, c2, rfl, ho, hb⟩
      rw [HPp.out] at ho ⊢
      have hb8 := HBx.out.trans (hb.mono HBx.out.size)
      have hz := hb8.size
      simp at hz
      obtain ⟨hcc, hff⟩ := bcell hb8
      have z1 : w.heap.size < w2.heap.size := by omega
      clear ho hb
      go_wp2
      exact bodyPost_ret (v := .tuple #[.agg #[.int .i64 0, .int .i64 0], .slice none 0 0, .slice none 0 0, .int .i64 pc]) (by simp [results, Tryz.results25, go_sem, z1, hcc]) rfl (CPost4.nil HEE.out (bel1s hb8))
  · have HE : Hid (M.certRes R = ((0, 0), [], [], (M.cycMeanRes R).2)) := by show _ = _; unfold M.certRes; rw [if_neg hc]
    obtain ⟨r, hr⟩ : ∃ r, r = M.cycMeanRes R := ⟨_, rfl⟩
    rw [← hr] at hc HE
    have HR := Lib.hid hr.symm
    obtain ⟨⟨r1, r2⟩, r3⟩ := r
    have hr3 : (r3 != 0) = true := by simpa using hc
    clear h hc hr hRn
    go_enter Tryz.func25, Tryz.ntmps25
    go_wp2_with fail
    refine (cycleMean _ _ _ R _ (HA.out.below HB0.out)).mono ?_
    rintro e w1 ⟨rfl, hb⟩
    rw [HR.out]
    have hz := hb.size
    simp at hz
    obtain ⟨hcc, hff⟩ := bcell hb
    have z1 : w.heap.size < w1.heap.size := by omega
    go_wp2
    exact bodyPost_ret (v := .tuple #[.agg #[.int .i64 0, .int .i64 0], .slice none 0 0, .slice none 0 0, .int .i64 r3]) (by simp [results, Tryz.results25, go_sem, z1, hcc]) rfl (CPost4.nil HE.out ((bel1s hb).alloc (bel1s hb).size _))
end V
end Go.Proofs.YtihpbgjiohnekabGreat

namespace Go.Proofs.YtihpbgjiohnekabGreat
namespace V
set_option maxRecDepth 100000
open Go.RowKit
set_option maxRecDepth 100000 in
set_option maxHeartbeats 4000000 in
theorem sCertifyMean (a : Option Addr) (n cap : Nat) (R : List (List Int)) (w : World) (h : Mat w a n R) :
    Calls Tryz.prog 26 #[.slice a n cap] w (CPost4 (M.certRes R) w) := by
  have HA := Lib.hid h
  have hRn : R.length = n := h.1
  have HB0 : Hid (Below w.heap.size w (w.alloc (.cells #[.int .i64 0, .int .i64 0] 26))) := b_alloc _ _
  by_cases hc : (M.cycMeanRes R).2 = 0
  · obtain ⟨c, L, hs, hcyc, hnear, hp, hq, hcl, hvx, hov⟩ := M.eig_t hc
    have hcm := (M.cyc_t hc).2.2.2
    rw [hRn] at hcyc hnear hp hcl hov hcm
    obtain ⟨hr, n1, n2, hsm⟩ := sq_parts h hs
    have HR := Lib.hid hr
    have HSm := Lib.hid hsm
    have HSs := Lib.hid hs
    obtain ⟨q, hq0⟩ : ∃ q, q = M.bestCyc R := ⟨_, rfl⟩
    have HBq : Hid (M.best2 R = q) := by show _ = _; unfold M.best2; rw [hRn, hcyc, if_pos rfl, hq0]
    obtain ⟨r, hrr⟩ : ∃ r, r = M.bestR (M.ent R) n := ⟨_, rfl⟩
    rw [← hrr] at hnear hp hov hcm
    have HNear := Lib.hid hnear
    have HP := Lib.hid hp
    have HOv := Lib.hid hov
    have HCm := Lib.hid hcm
    obtain ⟨r1, r2⟩ := r
    have HBm : Hid (∀ i j, i < n → j < n → M.Sm 1000001000000 (M.bestF (M.shf (M.ent R) r1 r2) n i j)) := fun i j hi hj => by
      unfold M.bestF
      split
      · exact M.sh_sm HSm.out HNear.out i j hi hj
      · exact .inl rfl
    obtain ⟨p, hpp⟩ : ∃ p, p = M.potRes R r1 r2 := ⟨_, rfl⟩
    have HPp := Lib.hid hpp.symm
    have hE : M.certRes R = if p.2 = 0 then ((r1, r2), M.bestCyc R, p.1, 0) else ((0, 0), [], [], p.2) := by
      unfold M.certRes; rw [if_pos hc, hcm, hpp]
    have HE := Lib.hid hE
    obtain ⟨pl, pc⟩ := p
    rw [← hq0] at HE HOv
    clear hq0 h hc hs hcyc hnear hp hq hvx hov hcm hr hsm hrr hpp hE hRn hcl
    by_cases hpc : pc = 0
    · subst hpc
      go_enter Tryz.func26, Tryz.ntmps26
      go_wp2_with fail
      refine (sCycleMean _ _ _ R _ (HA.out.below HB0.out)).mono ?_
      rintro e w1 ⟨rfl, hb⟩
      rw [HCm.out]
      have HB1 := Lib.hid hb
      clear hb
      obtain ⟨wb, hwb⟩ : ∃ x, x = w1.alloc (rbox r1 r2) := ⟨_, rfl⟩
      have HX : Hid (Boxed w1 wb r1 r2) := by show Boxed _ _ _ _; rw [hwb]; exact boxed _ _ _
      have HBx := Lib.hid (HB1.out.trans (HX.out.below.mono HB1.out.size))
      have HBy := Lib.hid (HB0.out.trans (HBx.out.mono HB0.out.size))
      go_wp2_with fail
      change Calls _ _ _ (w1.alloc (rbox r1 r2)) _
      rw [← hwb]
      clear hwb
      refine (sPotentialOf _ _ _ R r1 r2 _ (HA.out.below HBy.out)).mono ?_
      rintro e w2 ⟨b2, m2, c2, rfl, ho, hb⟩
      rw [HPp.out] at ho ⊢
      have HO2 := Lib.hid ho
      have HB2 := Lib.hid hb
      have HBz := Lib.hid (HBy.out.trans (hb.mono HBy.out.size))
      obtain ⟨p0, p1⟩ := HX.out.cells hb
      clear ho hb
      go_wp2_with fail
      refine (sBest _ _ _ R _ (HA.out.below HBz.out) HSs.out).mono ?_
      rintro e w4 ⟨b4, n4, c4, rfl, ho, hb⟩
      rw [HBq.out] at ho
      have HO4 := Lib.hid ho
      have HB4 := Lib.hid hb
      have HB3 := Lib.hid (Below.refl w2.heap.size w2)
      have hb8 := HBx.out.trans ((HB2.out.trans (hb.mono HB2.out.size)).mono HBx.out.size)
      have hz8 := hb8.size
      simp at hz8
      obtain ⟨hcc, hff⟩ := bcell hb8
      have z1 : w.heap.size < w4.heap.size := by omega
      obtain ⟨p2, p3⟩ := HX.out.cells (HB2.out.trans (hb.mono HB2.out.size))
      clear ho hb hb8 p0 p1
      go_wp2
      all_goals
        have hlt2 : w.heap.size < w2.heap.size := by have := HBx.out.size; have := HB2.out.size; simp at *; omega
        have hHE : M.certRes R = ((r1, r2), q, pl, 0) := HE.out
        refine bodyPost_ret (v := .tuple #[.agg #[.int .i64 r1, .int .i64 r2], .slice b4 n4 c4, .slice b2 m2 c2, .int .i64 0]) (by simp [results, Tryz.results26, go_sem, z1, hcc]) rfl ?_
        rw [hHE]
        refine ⟨(w2.setCell ⟨w.heap.size, 0, none⟩ (.int .i64 r1)).setCell ⟨w.heap.size, 1, none⟩ (.int .i64 r2), b4, n4, c4, b2, m2, c2, rfl, ?_, ?_, ?_, ?_⟩
        · refine (HO2.out.keep fun k k1 _ => ?_).mono HBy.out.size
          have k2 : w.heap.size ≠ k := by have := HBx.out.size; simp at this; omega
          exact (Below.heap_setCell _ _ _ k k2.symm).trans (Below.heap_setCell _ _ _ k k2.symm)
        · exact (HBz.out.setCell (p := ⟨w.heap.size, 0, none⟩) (Nat.le_refl _) _).setCell (p := ⟨w.heap.size, 1, none⟩) (Nat.le_refl _) _
        · refine (HO4.out.keep fun k k1 _ => ?_).mono ?_
          · have k2 : w.heap.size ≠ k := by have := HB3.out.size; omega
            exact (Below.heap_setCell _ _ _ k k2.symm).trans (Below.heap_setCell _ _ _ k k2.symm)
          · simp [World.setCell]
        · have e := below_set2 (below_set2 HB4.out ⟨w.heap.size, 0, none⟩ hlt2 (.int .i64 r1)) ⟨w.heap.size, 1, none⟩ hlt2 (.int .i64 r2)
          simpa [World.setCell] using e
    · have HEE : Hid (M.certRes R = ((0, 0), [], [], pc)) := HE.out.trans (if_neg hpc)
      have hpb : (pc != 0) = true := by simpa using hpc
      go_enter Tryz.func26, Tryz.ntmps26
      go_wp2_with fail
      refine (sCycleMean _ _ _ R _ (HA.out.below HB0.out)).mono ?_
      rintro e w1 ⟨rfl, hb⟩
      rw [HCm.out]
      have HB1 := Lib.hid hb
      clear hb
      obtain ⟨wb, hwb⟩ : ∃ x, x = w1.alloc (rbox r1 r2) := ⟨_, rfl⟩
      have HX : Hid (Boxed w1 wb r1 r2) := by show Boxed _ _ _ _; rw [hwb]; exact boxed _ _ _
      have HBx := Lib.hid (HB1.out.trans (HX.out.below.mono HB1.out.size))
      have HBy := Lib.hid (HB0.out.trans (HBx.out.mono HB0.out.size))
      go_wp2_with fail
      change Calls _ _ _ (w1.alloc (rbox r1 r2)) _
      rw [← hwb]
      clear hwb
      refine (sPotentialOf _ _ _ R r1 r2 _ (HA.out.below HBy.out)).mono ?_
      rintro e w2 ⟨b2, m2, c2, rfl, ho, hb⟩
      rw [HPp.out] at ho ⊢
      have hb8 := HBx.out.trans (hb.mono HBx.out.size)
      have hz := hb8.size
      simp at hz
      obtain ⟨hcc, hff⟩ := bcell hb8
      have z1 : w.heap.size < w2.heap.size := by omega
      clear ho hb
      go_wp2
      exact bodyPost_ret (v := .tuple #[.agg #[.int .i64 0, .int .i64 0], .slice none 0 0, .slice none 0 0, .int .i64 pc]) (by simp [results, Tryz.results26, go_sem, z1, hcc]) rfl (CPost4.nil HEE.out (bel1s hb8))
  · have HE : Hid (M.certRes R = ((0, 0), [], [], (M.cycMeanRes R).2)) := by show _ = _; unfold M.certRes; rw [if_neg hc]
    obtain ⟨r, hr⟩ : ∃ r, r = M.cycMeanRes R := ⟨_, rfl⟩
    rw [← hr] at hc HE
    have HR := Lib.hid hr.symm
    obtain ⟨⟨r1, r2⟩, r3⟩ := r
    have hr3 : (r3 != 0) = true := by simpa using hc
    clear h hc hr hRn
    go_enter Tryz.func26, Tryz.ntmps26
    go_wp2_with fail
    refine (sCycleMean _ _ _ R _ (HA.out.below HB0.out)).mono ?_
    rintro e w1 ⟨rfl, hb⟩
    rw [HR.out]
    have hz := hb.size
    simp at hz
    obtain ⟨hcc, hff⟩ := bcell hb
    have z1 : w.heap.size < w1.heap.size := by omega
    go_wp2
    exact bodyPost_ret (v := .tuple #[.agg #[.int .i64 0, .int .i64 0], .slice none 0 0, .slice none 0 0, .int .i64 r3]) (by simp [results, Tryz.results26, go_sem, z1, hcc]) rfl (CPost4.nil HE.out ((bel1s hb).alloc (bel1s hb).size _))
theorem M.certRes_len (R : List (List Int)) : (M.certRes R).2.1.length ≤ 10 ∧ (M.certRes R).2.2.1.length ≤ 10 := by
  unfold M.certRes
  split
  · next h =>
    split
    · exact ⟨by obtain ⟨h1, h2, -⟩ := M.cyc_t h; exact (M.best_cyc h1 h2).2.2.2, M.potRes_len R _ _⟩
    · exact ⟨by simp, by simp⟩
  · exact ⟨by simp, by simp⟩
end V
end Go.Proofs.YtihpbgjiohnekabGreat

namespace Go.Proofs.YtihpbgjiohnekabGreat
namespace M
theorem isPotB_t {R : List (List Int)} {a b : Int} {x : List Int} (h : isPotB R a b x = true) : sqB R = true ∧ isRat a b = true := by
  unfold isPotB at h
  rw [Bool.and_eq_true, Bool.and_eq_true] at h
  exact h.1
theorem certB_1 {R : List (List Int)} {a b : Int} {l x : List Int} (h : isPotB R a b x = false) : certB R a b l x = false := by unfold certB; rw [h]; rfl
theorem certB_2 {R : List (List Int)} {a b : Int} {l x : List Int} (h : cycB R l = false) : certB R a b l x = false := by unfold certB; rw [h]; simp
theorem certB_3 {R : List (List Int)} {a b : Int} {l x : List Int} (h : isPotB R a b x = true) (hc : cycB R l = true) : certB R a b l x = decide (meanR (aroundW R l) l.length = (a, b)) := by unfold certB; rw [h, hc]; rfl
end M
namespace V
open Go.RowKit
theorem three (a b c d : Int) : (c = a ∧ d = b) ∨ (c = a ∧ ¬ b = d ∧ (b == d) = false) ∨ (¬ a = c ∧ (a == c) = false) := by
  by_cases h1 : a = c
  · by_cases h2 : b = d
    · exact .inl ⟨h1.symm, h2.symm⟩
    · exact .inr (.inl ⟨h1.symm, h2, by simpa using h2⟩)
  · exact .inr (.inr ⟨h1, by simpa using h1⟩)
set_option maxRecDepth 100000 in
set_option maxHeartbeats 2000000 in
theorem isMeanCertificate (a : Option Addr) (n cap : Nat) (R : List (List Int)) (num den : Int) (a' : Option Addr) (N cap' : Nat) (l : List Int) (a'' : Option Addr) (K cap'' : Nat) (x : List Int) (w0 : World) (h : Mat w0 a n R) (h' : Ints .i64 w0 a' N l) (h'' : Ints .i64 w0 a'' K x) (hc1 : N ≤ cap') (hc2 : cap' ≤ maxLen) :
    Calls Tryz.prog 31 #[.slice a n cap, .agg #[.int .i64 num, .int .i64 den], .slice a' N cap', .slice a'' K cap''] w0 fun e w' => e = .returned (.bool (M.certB R num den l x)) ∧ Below w0.heap.size w0 w' := by
  obtain ⟨w, hwd⟩ : ∃ w, w = w0.alloc (rbox num den) := ⟨_, rfl⟩
  have HX : Hid (Boxed w0 w num den) := by show Boxed _ _ _ _; rw [hwd]; exact boxed _ _ _
  have HA : Hid (Mat w a n R) := h.below HX.out.below
  have HI : Hid (Ints .i64 w a' N l) := h'.below HX.out.below
  have HJ : Hid (Ints .i64 w a'' K x) := h''.below HX.out.below
  have HM := Lib.hid hc2
  have HZ := Lib.hid HX.out.size
  obtain ⟨c0, c1⟩ := HX.out.cells (Below.refl _ _)
  obtain ⟨b, hb⟩ : ∃ b, b = M.isPotB R num den x := ⟨_, rfl⟩
  have HP := Lib.hid hb
  cases b with
  | false =>
    have HE := Lib.hid (M.certB_1 (l := l) hb.symm)
    clear h h' h'' hb hc2
    go_enter Tryz.func31, Tryz.ntmps31
    go_wp2_with fail
    simp only [← hwd] at *
    clear hwd
    refine (isPotential _ _ _ R _ _ _ _ _ x _ HA.out HJ.out).mono ?_
    rintro e w1 ⟨rfl, hb1⟩
    rw [← HP.out]
    have HB1 := Lib.hid (HX.out.trans hb1)
    clear hb1
    go_wp2
    go_ret
    exact ⟨retB HE.out.symm, HB1.out⟩
  | true =>
    obtain ⟨hs, hr⟩ := M.isPotB_t hb.symm
    have HS := Lib.hid hs
    obtain ⟨c, hc⟩ : ∃ c, c = M.cycB R l := ⟨_, rfl⟩
    have HIC : Hid (M.isCycB R l = c) := by show _ = _; unfold M.isCycB; rw [hs, ← hc]; rfl
    cases c with
    | false =>
      have HE := Lib.hid (M.certB_2 (a := num) (b := den) (x := x) hc.symm)
      clear h h' h'' hb hc2 hs hr hc
      go_enter Tryz.func31, Tryz.ntmps31
      go_wp2_with fail
      simp only [← hwd] at *
      clear hwd
      refine (isPotential _ _ _ R _ _ _ _ _ x _ HA.out HJ.out).mono ?_
      rintro e w1 ⟨rfl, hb1⟩
      rw [← HP.out]
      have HB1 := Lib.hid hb1
      clear hb1
      go_wp2_with fail
      refine (isCycle_b _ _ _ R _ _ _ l _ false HIC.out (HA.out.below HB1.out) (HI.out.below HB1.out) hc1 HM.out).mono ?_
      rintro e w2 ⟨rfl, hb2⟩
      have HB2 := Lib.hid (HX.out.trans (bnext HB1.out hb2))
      clear hb2
      go_wp2
      go_ret
      exact ⟨retB HE.out.symm, HB2.out⟩
    | true =>
      have HC := Lib.hid hc.symm
      obtain ⟨m, hm⟩ : ∃ m, m = M.meanR (M.aroundW R l) l.length := ⟨_, rfl⟩
      have HMn := Lib.hid hm
      have HE : Hid (M.certB R num den l x = decide (m = (num, den))) := by show _ = _; rw [M.certB_3 hb.symm hc.symm, hm]
      clear h h' h'' hb hc2 hs hr hc hm
      obtain ⟨m1, m2⟩ := m
      have HE2 : Hid ((m1 == num && m2 == den) = M.certB R num den l x) := by
        show _ = _
        rw [HE.out, Bool.eq_iff_iff, Bool.and_eq_true, decide_eq_true_eq, beq_iff_eq, beq_iff_eq, Prod.mk.injEq]
      rcases three m1 m2 num den with ⟨rfl, rfl⟩ | ⟨rfl, e2, e3⟩ | ⟨e2, e3⟩
      all_goals
        go_enter Tryz.func31, Tryz.ntmps31
        go_wp2_with fail
        simp only [← hwd] at *
        clear hwd
        refine (isPotential _ _ _ R _ _ _ _ _ x _ HA.out HJ.out).mono ?_
        rintro e w1 ⟨rfl, hb1⟩
        rw [← HP.out]
        have HB1 := Lib.hid hb1
        clear hb1
        go_wp2_with fail
        refine (isCycle_b _ _ _ R _ _ _ l _ true HIC.out (HA.out.below HB1.out) (HI.out.below HB1.out) hc1 HM.out).mono ?_
        rintro e w2 ⟨rfl, hb2⟩
        have HB2 := Lib.hid (bnext HB1.out hb2)
        clear hb2
        obtain ⟨p0, p1⟩ := HX.out.cells HB2.out
        have hlt : w0.heap.size < w2.heap.size := by have := HB2.out.size; have := HZ.out; omega
        go_wp2
        go_region_held3 (fun w' => w'.cell? ⟨w0.heap.size, 0, none⟩ = some (.int .i64 num) ∧ w'.cell? ⟨w0.heap.size, 1, none⟩ = some (.int .i64 den) ∧ Below w2.heap.size w2 w') (first | exact ⟨p0, p1, (Below.refl _ _).drew⟩ | exact V.keep3 hlt ‹_ ∧ _ ∧ Below _ _ _› hb)
          (first | (go_at_call 98; refine (givenMean _ _ _ R _ _ _ l _ (HA.out.below (HB2.out.trans ((V.low3 ‹_ ∧ _ ∧ Below _ _ _›).mono HB2.out.size))) HS.out HC.out (HI.out.below (HB2.out.trans ((V.low3 ‹_ ∧ _ ∧ Below _ _ _›).mono HB2.out.size))) hc1 HM.out).mono ?_; rintro e w3 ⟨rfl, hb⟩; rw [← HMn.out]))
        all_goals
          have hb3 : Below w2.heap.size w2 w3 := V.low3 (by assumption)
          have HB3 := Lib.hid (HX.out.trans (HB2.out.trans (hb3.mono HB2.out.size)))
          clear hb hb3
          go_wp2
          all_goals
            go_ret
            refine ⟨retB ?_, HB3.out⟩
            rw [← HE2.out]
            try simp_all
set_option maxRecDepth 100000 in
set_option maxHeartbeats 2000000 in
theorem sIsMeanCertificate (a : Option Addr) (n cap : Nat) (R : List (List Int)) (num den : Int) (a' : Option Addr) (N cap' : Nat) (l : List Int) (a'' : Option Addr) (K cap'' : Nat) (x : List Int) (w0 : World) (h : Mat w0 a n R) (h' : Ints .i64 w0 a' N l) (h'' : Ints .i64 w0 a'' K x) (hc1 : N ≤ cap') (hc2 : cap' ≤ maxLen) :
    Calls Tryz.prog 32 #[.slice a n cap, .agg #[.int .i64 num, .int .i64 den], .slice a' N cap', .slice a'' K cap''] w0 fun e w' => e = .returned (.bool (M.certB R num den l x)) ∧ Below w0.heap.size w0 w' := by
  obtain ⟨w, hwd⟩ : ∃ w, w = w0.alloc (rbox num den) := ⟨_, rfl⟩
  have HX : Hid (Boxed w0 w num den) := by show Boxed _ _ _ _; rw [hwd]; exact boxed _ _ _
  have HA : Hid (Mat w a n R) := h.below HX.out.below
  have HI : Hid (Ints .i64 w a' N l) := h'.below HX.out.below
  have HJ : Hid (Ints .i64 w a'' K x) := h''.below HX.out.below
  have HM := Lib.hid hc2
  have HZ := Lib.hid HX.out.size
  obtain ⟨c0, c1⟩ := HX.out.cells (Below.refl _ _)
  obtain ⟨b, hb⟩ : ∃ b, b = M.isPotB R num den x := ⟨_, rfl⟩
  have HP := Lib.hid hb
  cases b with
  | false =>
    have HE := Lib.hid (M.certB_1 (l := l) hb.symm)
    clear h h' h'' hb hc2
    go_enter Tryz.func32, Tryz.ntmps32
    go_wp2_with fail
    simp only [← hwd] at *
    clear hwd
    refine (sIsPotential _ _ _ R _ _ _ _ _ x _ HA.out HJ.out).mono ?_
    rintro e w1 ⟨rfl, hb1⟩
    rw [← HP.out]
    have HB1 := Lib.hid (HX.out.trans hb1)
    clear hb1
    go_wp2
    go_ret
    exact ⟨retB HE.out.symm, HB1.out⟩
  | true =>
    obtain ⟨hs, hr⟩ := M.isPotB_t hb.symm
    have HS := Lib.hid hs
    by_cases hc : M.cycB R l = true
    · obtain ⟨m, hm⟩ : ∃ m, m = M.meanR (M.aroundW R l) l.length := ⟨_, rfl⟩
      have HC : Hid (M.mean2 R l = (m, true)) := by show _ = _; unfold M.mean2; rw [if_pos hc, hm]
      have HE : Hid (M.certB R num den l x = decide (m = (num, den))) := by show _ = _; rw [M.certB_3 hb.symm hc, hm]
      clear h h' h'' hb hc2 hs hr hc hm
      obtain ⟨m1, m2⟩ := m
      have HE2 : Hid ((m1 == num && m2 == den) = M.certB R num den l x) := by
        show _ = _
        rw [HE.out, Bool.eq_iff_iff, Bool.and_eq_true, decide_eq_true_eq, beq_iff_eq, beq_iff_eq, Prod.mk.injEq]
      go_enter Tryz.func32, Tryz.ntmps32
      go_wp2_with fail
      simp only [← hwd] at *
      clear hwd
      refine (sIsPotential _ _ _ R _ _ _ _ _ x _ HA.out HJ.out).mono ?_
      rintro e w1 ⟨rfl, hb1⟩
      rw [← HP.out]
      have HB1 := Lib.hid hb1
      clear hb1
      go_wp2_with fail
      refine (sMean _ _ _ R _ _ _ l _ (HA.out.below HB1.out) HS.out (HI.out.below HB1.out) hc1 HM.out).mono ?_
      rintro e w2 ⟨rfl, hb2⟩
      rw [HC.out]
      have HB2 := Lib.hid (bnext HB1.out hb2)
      obtain ⟨p0, p1⟩ := HX.out.cells HB2.out
      have hlt : w0.heap.size < w2.heap.size := by have := HB2.out.size; have := HZ.out; omega
      clear hb2
      go_wp2
      all_goals
        go_ret
        refine ⟨retB ?_, by first | exact (HX.out.trans HB2.out).alloc (HX.out.trans HB2.out).size _ | exact HX.out.trans HB2.out⟩
        rw [← HE2.out]
        try simp_all
    · simp only [Bool.not_eq_true] at hc
      have HC : Hid (M.mean2 R l = ((0, 0), false)) := by show _ = _; unfold M.mean2; rw [if_neg (by rw [hc]; exact Bool.false_ne_true)]
      have HE := Lib.hid (M.certB_2 (a := num) (b := den) (x := x) hc)
      clear h h' h'' hb hc2 hs hr hc
      go_enter Tryz.func32, Tryz.ntmps32
      go_wp2_with fail
      simp only [← hwd] at *
      clear hwd
      refine (sIsPotential _ _ _ R _ _ _ _ _ x _ HA.out HJ.out).mono ?_
      rintro e w1 ⟨rfl, hb1⟩
      rw [← HP.out]
      have HB1 := Lib.hid hb1
      clear hb1
      go_wp2_with fail
      refine (sMean _ _ _ R _ _ _ l _ (HA.out.below HB1.out) HS.out (HI.out.below HB1.out) hc1 HM.out).mono ?_
      rintro e w2 ⟨rfl, hb2⟩
      rw [HC.out]
      have HB2 := Lib.hid (bnext HB1.out hb2)
      obtain ⟨p0, p1⟩ := HX.out.cells HB2.out
      clear hb2
      go_wp2
      go_ret
      exact ⟨retB HE.out.symm, by first | exact (HX.out.trans HB2.out).alloc (HX.out.trans HB2.out).size _ | exact HX.out.trans HB2.out⟩
end V
end Go.Proofs.YtihpbgjiohnekabGreat

namespace Go.Proofs.YtihpbgjiohnekabGreat.V
open Go.RowKit

/-- The three cells of a source: the code, the place, the seed. -/
def srcF (a : Option Addr) (n cap t : Nat) (s : Int) : Nat → Value
  | 0 => .slice a n cap
  | 1 => .int .i64 t
  | _ => .int .i64 s

/-- The code of a source: bytes that lie below block g. -/
def CodeAt (w : World) (g : Nat) (a : Option Addr) (n : Nat) : Prop :=
  n ≤ maxLen ∧ (n = 0 ∨ ∃ b off, a = some ⟨b, off, none⟩ ∧ b < g ∧ ∀ i, i < n → ∃ x : Int, 0 ≤ x ∧ x ≤ 255 ∧ w.cell? ⟨b, off + i, none⟩ = some (.int .u8 x))

/-- Block g is a source. -/
def Src (w : World) (g : Nat) : Prop := ∃ (a : Option Addr) (n cap t : Nat) (s : Int),
  w.rowIs g 129 3 (srcF a n cap t s) ∧ CodeAt w g a n ∧ t ≤ n ∧ 0 ≤ s ∧ s < 2147483647

/-- Only block g may have changed; blocks may have been added. -/
structure Thr (g : Nat) (w w' : World) : Prop where
  below : Below g w w'
  other : ∀ k, g < k → k < w.heap.size → w'.heap[k]? = w.heap[k]?

theorem Thr.refl (g : Nat) (w : World) : Thr g w w := ⟨Below.refl _ _, fun _ _ _ => rfl⟩
theorem Thr.trans {g : Nat} {a b c : World} (h : Thr g a b) (k : Thr g b c) : Thr g a c :=
  ⟨h.below.trans k.below, fun i h1 h2 => (k.other i h1 (Nat.lt_of_lt_of_le h2 h.below.size)).trans (h.other i h1 h2)⟩
theorem Thr.drew {g : Nat} {a b : World} (h : Thr g a b) : Thr g a b.drew := ⟨h.below.drew, h.other⟩
theorem Thr.drewN {g : Nat} {a b : World} (h : Thr g a b) (n : Nat) : Thr g a (b.drewN n) := ⟨below_drewN h.below n, h.other⟩
theorem Thr.setCell {g : Nat} {a b : World} (h : Thr g a b) {i : Nat} (v : Value) : Thr g a (b.setCell ⟨g, i, none⟩ v) :=
  ⟨h.below.setCell (Nat.le_refl _) v, fun k h1 h2 => (Below.heap_setCell _ _ _ _ (by show k ≠ g; omega)).trans (h.other k h1 h2)⟩
theorem Thr.cell {g : Nat} {w w' : World} (h : Thr g w w') {p : Addr} (hp : p.block < w.heap.size) (hne : p.block ≠ g) : w'.cell? p = w.cell? p := by
  by_cases hlt : p.block < g
  · exact h.below.cell hlt
  · exact World.cell?_of_block (w := w) (h.other _ (by omega) hp)

theorem CodeAt.below {w w' : World} {g : Nat} {a : Option Addr} {n : Nat} (h : CodeAt w g a n) (hb : Below g w w') : CodeAt w' g a n := by
  obtain ⟨h1, h2⟩ := h
  refine ⟨h1, ?_⟩
  rcases h2 with h2 | ⟨b, off, rfl, hlt, hc⟩
  · exact .inl h2
  · refine .inr ⟨b, off, rfl, hlt, fun i hi => ?_⟩
    obtain ⟨x, x1, x2, hx⟩ := hc i hi
    exact ⟨x, x1, x2, by rw [hb.cell (p := ⟨b, off + i, none⟩) hlt]; exact hx⟩

theorem Src.below {w w' : World} {g : Nat} (h : Src w g) (hb : Below (g + 1) w w') : Src w' g := by
  obtain ⟨a, n, cap, t, s, h1, h2, h3⟩ := h
  exact ⟨a, n, cap, t, s, h1.of_block (hb.block g (by omega)), h2.below (hb.mono (by omega)), h3⟩
theorem Src.lt {w : World} {g : Nat} (h : Src w g) : g < w.heap.size := by
  obtain ⟨a, n, cap, t, s, h1, h2, h3⟩ := h
  exact h1.lt
theorem Src.drew {w : World} {g : Nat} (h : Src w g) : Src w.drew g := h

/-- What a drawn number is. -/
def NextPost (g : Nat) (n : Int) (w : World) (e : Ending) (w' : World) : Prop :=
  ∃ x : Int, e = .returned (.int .i64 x) ∧ 0 ≤ x ∧ (x < n ∨ x = 0) ∧ Src w' g ∧ Thr g w w'

theorem mod_lt (x n : Int) (hx : 0 ≤ x) (hn : 1 < n) : 0 ≤ x % n ∧ (x % n < n ∨ x % n = 0) :=
  ⟨Int.emod_nonneg _ (by omega), .inl (Int.emod_lt_of_pos _ (by omega))⟩

theorem rowIs_seed {w : World} {g T : Nat} {a : Option Addr} {n cap t : Nat} {s : Int} (h : w.rowIs g T 3 (srcF a n cap t s)) (s' : Int) : (w.setCell ⟨g, 2, none⟩ (.int .i64 s')).rowIs g T 3 (srcF a n cap t s') :=
  (h.set 2 _).congr (fun i hi => by
    match i, hi with
    | 0, _ => rfl
    | 1, _ => rfl
    | 2, _ => rfl)
theorem rowIs_at {w : World} {g T : Nat} {a : Option Addr} {n cap t : Nat} {s : Int} (h : w.rowIs g T 3 (srcF a n cap t s)) (t' : Nat) (v : Int) (hv : v = (t' : Int)) : (w.setCell ⟨g, 1, none⟩ (.int .i64 v)).rowIs g T 3 (srcF a n cap t' s) :=
  (h.set 1 _).congr (fun i hi => by
    subst hv
    match i, hi with
    | 0, _ => rfl
    | 1, _ => rfl
    | 2, _ => rfl)

theorem next_fin {g : Nat} {n : Int} {w w2 : World} {a : Option Addr} {m cap t : Nat} {s x : Int} (hn : 1 < n) (hx : 0 ≤ x) (hrow : w2.rowIs g 129 3 (srcF a m cap t s)) (hc : CodeAt w g a m) (ht : t ≤ m) (s1 : 0 ≤ s) (s2 : s < 2147483647)
    (hthr : Thr g w w2) : NextPost g n w (.returned (.int .i64 (x % n))) w2 :=
  ⟨_, rfl, (mod_lt x n hx hn).1, (mod_lt x n hx hn).2, ⟨a, m, cap, t, s, hrow, hc.below hthr.below, ht, s1, s2⟩, hthr⟩

set_option maxRecDepth 100000 in
set_option maxHeartbeats 1000000 in
theorem next (g : Nat) (n : Int) (w : World) (wn : (Lit.int .i64 n).wf = true) (h : Src w g) :
    Calls Tryz.prog 94 #[.pointer (some ⟨g, 0, none⟩), .int .i64 n] w (NextPost g n w) := by
  by_cases hn : n ≤ 1
  · go_enter Tryz.func94, Tryz.ntmps94
    go_wp2
    go_ret
    exact ⟨0, rfl, by omega, .inr rfl, h, Thr.refl _ _⟩
  · obtain ⟨a, m, cap, t, s, hrow, hcode, ht, s1, s2⟩ := h
    have c0 : w.cell? ⟨g, 0, none⟩ = some (.slice a m cap) := hrow.cell (i := 0) (by omega)
    have c1 : w.cell? ⟨g, 1, none⟩ = some (.int .i64 t) := hrow.cell (i := 1) (by omega)
    have c2 : w.cell? ⟨g, 2, none⟩ = some (.int .i64 s) := hrow.cell (i := 2) (by omega)
    have f0 := hrow.frozen 0
    have f1 := hrow.frozen 1
    have f2 := hrow.frozen 2
    have HCODE := Lib.hid hcode
    obtain ⟨hm, hcode⟩ := hcode
    unfold maxLen at hm
    have HR := Lib.hid hrow
    clear hrow
    have hn' : 1 < n := by omega
    have r1 : 0 ≤ (s * 48271 + 59) % 2147483647 := Int.emod_nonneg _ (by omega)
    have r2 : (s * 48271 + 59) % 2147483647 < 2147483647 := Int.emod_lt_of_pos _ (by omega)
    by_cases htm : t < m
    · rcases hcode with h0 | ⟨b, off, rfl, hbg, hc⟩
      · omega
      obtain ⟨x, x1, x2, hcx⟩ := hc t htm
      clear hc
      have hne : ¬ b = g := by omega
      have hti : (t : Int) < (m : Int) := by omega
      have ht0 : 0 ≤ (t : Int) + 1 := by omega
      have hq : 0 ≤ (s * 48271 + 59) % 2147483647 / 31 := Int.ediv_nonneg r1 (by omega)
      have HC : Hid (CodeAt w g (some ⟨b, off, none⟩) m) := HCODE
      clear HCODE
      by_cases h256 : n ≤ 256
      · by_cases hev : ((t : Int) + 1) % 2 = 0
        · have hev' : (((t : Int) + 1) % 2 == 0) = true := by simpa using hev
          clear hev
          go_enter Tryz.func94, Tryz.ntmps94
          go_wp2
          go_quiet (fail)
          go_wp2
          go_quiet (fail)
          go_wp2
          go_quiet (fail)
          go_wp2
          go_ret
          exact next_fin hn' x1 (rowIs_at (w := (w.setCell ⟨g, 2, none⟩ (.int .i64 ((s * 48271 + 59) % 2147483647))).drewN _) (rowIs_seed HR.out _) (t + 1) _ (by omega)) HC.out (by omega) r1 r2 (((((Thr.refl g w).setCell _).drewN _).setCell _).drewN _)
        · have hev' : (((t : Int) + 1) % 2 == 0) = false := by simpa using hev
          clear hev
          go_enter Tryz.func94, Tryz.ntmps94
          go_wp2
          go_quiet (fail)
          go_wp2
          go_quiet (fail)
          go_wp2
          go_ret
          exact next_fin hn' (by omega) (rowIs_at (w := (w.setCell ⟨g, 2, none⟩ (.int .i64 ((s * 48271 + 59) % 2147483647))).drewN _) (rowIs_seed HR.out _) (t + 1) _ (by omega)) HC.out (by omega) r1 r2 ((((Thr.refl g w).setCell _).drewN _).setCell _)
      · go_enter Tryz.func94, Tryz.ntmps94
        go_wp2
        go_quiet (fail)
        go_wp2
        go_quiet (fail)
        go_wp2
        go_ret
        exact next_fin hn' (by omega) (rowIs_at (w := (w.setCell ⟨g, 2, none⟩ (.int .i64 ((s * 48271 + 59) % 2147483647))).drewN _) (rowIs_seed HR.out _) (t + 1) _ (by omega)) HC.out (by omega) r1 r2 ((((Thr.refl g w).setCell _).drewN _).setCell _)
    · obtain rfl : t = m := by omega
      have hq : 0 ≤ (s * 48271 + 59) % 2147483647 / 31 := Int.ediv_nonneg r1 (by omega)
      have HC : Hid (CodeAt w g a t) := HCODE
      clear HCODE hcode
      go_enter Tryz.func94, Tryz.ntmps94
      go_wp2
      go_quiet (fail)
      go_wp2
      go_ret
      exact next_fin hn' (by omega) (rowIs_seed HR.out _) HC.out (by omega) r1 r2 (((Thr.refl g w).setCell _).drewN _)
end Go.Proofs.YtihpbgjiohnekabGreat.V

namespace Go.Proofs.YtihpbgjiohnekabGreat.V
open Go.RowKit

theorem wf_small (n : Int) (a : -1000000000000000000 ≤ n) (b : n ≤ 1000000000000000000) : (Lit.int .i64 n).wf = true := by
  show (decide (IntKind.i64.min ≤ n) && decide (n ≤ IntKind.i64.max)) = true
  rw [Bool.and_eq_true]
  constructor <;> apply decide_eq_true
  · show (-9223372036854775808 : Int) ≤ n
    omega
  · show n ≤ (9223372036854775807 : Int)
    omega

/-- A slice of bytes that came in. -/
def Bytes (w : World) (a : Option Addr) (n : Nat) : Prop := CodeAt w w.heap.size a n

theorem IsRow.bytes {w : World} {a : Option Addr} {len cap : Nat} {zs : List Int} (h : IsRow .u8 w a len cap zs) : Bytes w a len := by
  rcases h with ⟨rfl, rfl, rfl, rfl⟩ | ⟨x, rfl, hl, hm, hz, hcell, hwf⟩
  · exact ⟨Nat.zero_le _, .inl rfl⟩
  · refine ⟨by omega, ?_⟩
    by_cases h0 : len = 0
    · exact .inl h0
    · obtain ⟨b, off, rfl, hc⟩ := ints_at hcell (by omega)
      refine .inr ⟨b, off, rfl, cell_lt (hc 0 (by omega)), fun i hi => ?_⟩
      have hx : zs.getD i 0 ∈ zs := by
        rw [List.getD_eq_getElem?_getD, List.getElem?_eq_getElem (by omega)]
        simp
      have := bounds_u8 (hwf _ hx)
      exact ⟨_, this.1, this.2, hc i (by omega)⟩

theorem Bytes.below {w w' : World} {a : Option Addr} {n : Nat} (h : Bytes w a n) (hb : Below w.heap.size w w') : Bytes w' a n := by
  have h2 := CodeAt.below h hb
  obtain ⟨h1, h3⟩ := h2
  refine ⟨h1, ?_⟩
  rcases h3 with h3 | ⟨b, off, rfl, hlt, hc⟩
  · exact .inl h3
  · exact .inr ⟨b, off, rfl, by have := hb.size; omega, hc⟩

set_option maxRecDepth 100000 in
set_option maxHeartbeats 1000000 in
theorem from_ (a : Option Addr) (n cap : Nat) (w : World) (h : Bytes w a n) :
    Calls Tryz.prog 69 #[.slice a n cap] w fun e w' => e = .returned (.pointer (some ⟨w.heap.size, 0, none⟩)) ∧ Src w' w.heap.size ∧ Below w.heap.size w w' := by
  have HB := Lib.hid h
  obtain ⟨hm, hcode⟩ := h
  unfold maxLen at hm
  go_enter Tryz.func69, Tryz.ntmps69
  go_wp2
  have hst : (w.alloc (.cells #[.slice a n cap, .int .i64 0, .int .i64 61403] 129)).rowIs w.heap.size 129 3 (srcF a n cap 0 61403) :=
    World.rowIs_alloc w _ _ _ (fun i hi => by
      match i, hi with
      | 0, _ => rfl
      | 1, _ => rfl
      | 2, _ => rfl)
  have HST := Lib.hid hst
  clear hst
  go_loopw [4] (fun i wr => ∃ k : Nat, ∃ s : Int, k ≤ n ∧ i = .int .i64 k ∧ 0 ≤ s ∧ s < 2147483647 ∧ wr.rowIs w.heap.size 129 3 (srcF a n cap 0 s) ∧ Below w.heap.size w wr) (fun i _ => n - (intOf i).toNat)
  case atStart => exact ⟨0, 61403, Nat.zero_le _, rfl, by omega, by omega, HST.out, b_alloc _ _⟩
  case round =>
    obtain ⟨k, s, hk, rfl, s1, s2, hrow, hb⟩ := hrel
    clear HST
    by_cases hlt : k < n ∧ k < 64
    · obtain ⟨hlt, h64⟩ := hlt
      rcases hcode with h0 | ⟨b, off, rfl, hbl, hc⟩
      · omega
      obtain ⟨x, x1, x2, hx⟩ := hc k hlt
      have hx' : wr.cell? ⟨b, off + k, none⟩ = some (.int .u8 x) := by rw [hb.cell (p := ⟨b, off + k, none⟩) hbl]; exact hx
      have c2 : wr.cell? ⟨w.heap.size, 2, none⟩ = some (.int .i64 s) := hrow.cell (i := 2) (by omega)
      have f2 := hrow.frozen 2
      have HR := Lib.hid hrow
      have HBW := Lib.hid hb
      clear hc hx hrow hb
      have r1 : 0 ≤ (s * 67 + x) % 2147483647 := Int.emod_nonneg _ (by omega)
      have r2 : (s * 67 + x) % 2147483647 < 2147483647 := Int.emod_lt_of_pos _ (by omega)
      have hki : (k : Int) < (n : Int) := by omega
      have hkj : (k : Int) < 64 := by omega
      go_wp2
      go_region
      go_wp2
      go_roundw
      case rel => exact ⟨k + 1, (s * 67 + x) % 2147483647, by omega, by go_num, r1, r2, rowIs_seed HR.out _, (HBW.out.setCell (Nat.le_refl _) _).drew⟩
      case measure => simp [intOf]; omega
    · have HR := Lib.hid hrow
      have HBW := Lib.hid hb
      clear hrow hb hcode
      by_cases hlt2 : k < n
      · have h64 : ¬ ((k : Int) < 64) := by omega
        have h64' : decide ((k : Int) < 64) = false := by simpa using h64
        clear hlt h64
        go_wp2
        go_ret
        exact ⟨rfl, ⟨a, n, cap, 0, s, HR.out, (CodeAt.below HB.out HBW.out), Nat.zero_le _, s1, s2⟩, HBW.out⟩
      · have hkn : k = n := by omega
        subst hkn
        clear hlt hlt2
        go_wp2
        go_ret
        exact ⟨rfl, ⟨a, k, cap, 0, s, HR.out, (CodeAt.below HB.out HBW.out), Nat.zero_le _, s1, s2⟩, HBW.out⟩

/-- What a picked number is: one of the list. -/
def PickPost (g : Nat) (w : World) (e : Ending) (w' : World) : Prop :=
  ∃ x : Int, e = .returned (.int .i64 x) ∧ (Lit.int .i64 x).wf = true ∧ Src w' g ∧ Thr g w w'

set_option maxRecDepth 100000 in
set_option maxHeartbeats 1000000 in
theorem pick (g b off n cap : Nat) (w : World) (h : Src w g) (hn : 0 < n) (hm : n ≤ 100) (hbg : g < b) (hc : ∀ i, i < n → ∃ x : Int, (Lit.int .i64 x).wf = true ∧ w.cell? ⟨b, off + i, none⟩ = some (.int .i64 x)) :
    Calls Tryz.prog 126 #[.pointer (some ⟨g, 0, none⟩), .slice (some ⟨b, off, none⟩) n cap] w (PickPost g w) := by
  have hbl : b < w.heap.size := by obtain ⟨x, _, hx⟩ := hc 0 hn; exact cell_lt hx
  have hwf : (Lit.int .i64 (n : Int)).wf = true := wf_small _ (by omega) (by omega)
  go_enter Tryz.func126, Tryz.ntmps126
  go_wp2_with fail
  refine (next _ _ _ hwf h).mono ?_
  rintro e w1 ⟨x, rfl, hx1, hx2, hs, ht⟩
  obtain ⟨k, rfl⟩ := Int.eq_ofNat_of_zero_le hx1
  have hk : k < n := by omega
  obtain ⟨y, hy, hcy⟩ := hc k hk
  have hcy' : w1.cell? ⟨b, off + k, none⟩ = some (.int .i64 y) := by rw [ht.cell (p := ⟨b, off + k, none⟩) hbl (by show b ≠ g; omega)]; exact hcy
  have hki : (k : Int) < (n : Int) := by omega
  have HT := Lib.hid ht
  have HS := Lib.hid hs
  clear hc hcy ht hs hx2
  go_wp2
  go_ret
  exact ⟨y, rfl, hy, HS.out, HT.out⟩

theorem litCells (w : World) (l : List Int) (vs : Array Value) (T : Nat) (hv : vs = (l.map (Value.int .i64)).toArray) (hw : l.all (fun x => (Lit.int .i64 x).wf) = true) :
    ∀ i, i < l.length → ∃ x : Int, (Lit.int .i64 x).wf = true ∧ (w.alloc (.cells vs T)).cell? ⟨w.heap.size, 0 + i, none⟩ = some (.int .i64 x) := by
  intro i hi
  refine ⟨l[i], ?_, ?_⟩
  · exact List.all_eq_true.1 hw _ (List.getElem_mem hi)
  · subst hv
    have e : (w.alloc (.cells (l.map (Value.int .i64)).toArray T)).heap[w.heap.size]? = some (.cells (l.map (Value.int .i64)).toArray T (0, 0)) := by
      show (w.heap.push _)[w.heap.size]? = _
      simp
    simp only [World.cell?, e]
    simp [hi]
theorem Thr.alloc {g : Nat} {a b : World} (h : Thr g a b) (hg : g ≤ b.heap.size) (o : Obj) : Thr g a (b.alloc o) :=
  ⟨h.below.alloc hg o, fun k h1 h2 => (Below.heap_alloc _ _ _ (by have := h.below.size; omega)).trans (h.other k h1 h2)⟩
theorem Src.alloc {w : World} {g : Nat} (h : Src w g) (o : Obj) : Src (w.alloc o) g := h.below ((Below.refl _ _).alloc (by have := h.lt; omega) _)

/-- What a drawn value is: an integer. -/
def ValPost (g : Nat) (w : World) (e : Ending) (w' : World) : Prop :=
  ∃ x : Int, e = .returned (.int .i64 x) ∧ (Lit.int .i64 x).wf = true ∧ Src w' g ∧ Thr g w w'

set_option maxRecDepth 100000 in
set_option maxHeartbeats 1000000 in
theorem drawValue (g : Nat) (w : World) (h : Src w g) :
    Calls Tryz.prog 189 #[.pointer (some ⟨g, 0, none⟩)] w (ValPost g w) := by
  go_enter Tryz.func189, Tryz.ntmps189
  go_wp2_with fail
  refine (next _ _ _ (by decide) h).mono ?_
  rintro e w1 ⟨x, rfl, hx1, hx2, hs, ht⟩
  have HT := Lib.hid ht
  have HS := Lib.hid hs
  clear ht hs hx2
  by_cases h0 : x = 0 ∨ x = 1 ∨ x = 2
  · rcases h0 with rfl | rfl | rfl
    all_goals
      go_wp2
      go_ret
      exact ⟨_, rfl, by decide, HS.out, HT.out⟩
  · have e0 : (x == 0) = false := by simp; omega
    have e1 : (x == 1) = false := by simp; omega
    have e2 : (x == 2) = false := by simp; omega
    clear h0
    by_cases h3 : x = 3
    · subst h3
      go_wp2_with fail
      refine (pick g _ 0 7 7 _ (HS.out.alloc _) (by omega) (by omega) HS.out.lt (litCells _ [1000000, 1000001, -1000000, -1000001, -999999999999999, -1000000000000001, 9223372036854775807] _ _ rfl (by decide))).mono ?_
      rintro e w2 ⟨y, rfl, hy, hs2, ht2⟩
      have HT2 := Lib.hid ((HT.out.alloc (Nat.le_of_lt HS.out.lt) _).trans ht2)
      have HS2 := Lib.hid hs2
      clear ht2 hs2
      go_wp2
      go_ret
      exact ⟨_, rfl, hy, HS2.out, HT2.out⟩
    · have e3 : (x == 3) = false := by simp; omega
      clear h3
      by_cases h4 : x = 4
      · subst h4
        go_wp2_with fail
        refine (next _ _ _ (by decide) HS.out).mono ?_
        rintro e w2 ⟨y, rfl, hy1, hy2, hs2, ht2⟩
        have hy3 : y < 2000 := by omega
        have HT2 := Lib.hid (HT.out.trans ht2)
        have HS2 := Lib.hid hs2
        clear ht2 hs2 hy2
        go_wp2
        go_ret
        exact ⟨_, rfl, wf_small _ (by omega) (by omega), HS2.out, HT2.out⟩
      · have e4 : (x == 4) = false := by simp; omega
        clear h4
        go_wp2_with fail
        refine (next _ _ _ (by decide) HS.out).mono ?_
        rintro e w2 ⟨y, rfl, hy1, hy2, hs2, ht2⟩
        have hy3 : y < 41 := by omega
        have HT2 := Lib.hid (HT.out.trans ht2)
        have HS2 := Lib.hid hs2
        clear ht2 hs2 hy2
        go_wp2
        go_ret
        exact ⟨_, rfl, wf_small _ (by omega) (by omega), HS2.out, HT2.out⟩
end Go.Proofs.YtihpbgjiohnekabGreat.V

namespace Go.Proofs.YtihpbgjiohnekabGreat.V
open Go.RowKit

theorem Own.thr {w w' : World} {B g : Nat} {v : Value} {l : List Int} (h : Own w B v l) (ht : Thr g w w') (hB : g < B) : Own w' B v l := h.keep (fun k h1 h2 => ht.other k (by omega) h2)
theorem OwnM.thr {w w' : World} {B g : Nat} {v : Value} {R : List (List Int)} (h : OwnM w B v R) (ht : Thr g w w') (hB : g < B) : OwnM w' B v R := h.keep (fun k h1 h2 => ht.other k (by omega) h2)
theorem Thr.of_below {g : Nat} {w w' : World} (h : Below w.heap.size w w') (hg : g ≤ w.heap.size) : Thr g w w' := ⟨h.mono hg, fun k _ h2 => h.block k h2⟩
theorem Thr.frozen {g : Nat} {w w' : World} (h : Thr g w w') {p : Addr} (hp : p.block < w.heap.size) (hne : g < p.block) : w'.frozen? p = w.frozen? p := World.frozen?_of_block (w := w) (h.other _ hne hp)

/-- A matrix that is being drawn: the source is block g, the matrix lies in blocks from B on; only these have changed since w0. -/
def DJ (g B : Nat) (v : Value) (R : List (List Int)) (w0 w : World) : Prop := OwnM w B v R ∧ Src w g ∧ Thr g w0 w
theorem DJ.next {g B : Nat} {v : Value} {R : List (List Int)} {w0 w w' : World} (h : DJ g B v R w0 w) (hB : g < B) (hs : Src w' g) (ht : Thr g w w') : DJ g B v R w0 w' :=
  ⟨h.1.thr ht hB, hs, h.2.2.trans ht⟩

/-- A store into an entry whose row is known. -/
theorem OwnM.put {w : World} {B n cap o k t q L c : Nat} {R : List (List Int)} (h : OwnM w B (.slice (some ⟨o, 0, none⟩) n cap) R) (hi : k < n) (hj : t < (R.getD k []).length) (hc : w.cell? ⟨o, k, none⟩ = some (.slice (some ⟨q, 0, none⟩) L c)) (y : Int) :
    OwnM (w.setCell ⟨q, t, none⟩ (.int .i64 y)) B (.slice (some ⟨o, 0, none⟩) n cap) (R.set k ((R.getD k []).set t y)) := by
  obtain ⟨g, q', L', c', x, hg, -, -, -, -, h1, -, -, h2⟩ := h.at k t hi hj
  injection hg with hg
  injection hg with hg
  subst hg
  rw [hc] at h1
  injection h1 with h1
  injection h1 with h1
  injection h1 with h1
  injection h1 with h1
  subst h1
  exact h2 y

theorem Rect.set {R : List (List Int)} {n L : Nat} (h : Rect R n L) (i j : Nat) (y : Int) (hi : i < n) : Rect (R.set i ((R.getD i []).set j y)) n L := by
  refine ⟨by simpa using h.1, fun k hk => ?_⟩
  rw [getD_set _ _ _ _ _ (by rw [h.1]; exact hi)]
  by_cases e : k = i
  · rw [if_pos e]; simpa using h.2 i hi
  · rw [if_neg e]; exact h.2 k hk

/-- A store into a matrix that is being drawn. -/
theorem DJ.store {g B q t n cap : Nat} {a : Option Addr} {R R' : List (List Int)} {w0 w : World} {x : Int} (h : DJ g B (.slice a n cap) R w0 w) (hB : w0.heap.size ≤ B) (hg : g < B) (hq : B ≤ q)
    (ho : OwnM (w.setCell ⟨q, t, none⟩ (.int .i64 x)) B (.slice a n cap) R') : DJ g B (.slice a n cap) R' w0 (w.setCell ⟨q, t, none⟩ (.int .i64 x)) := by
  refine ⟨ho, h.2.1.below ?_, ?_⟩
  · exact (Below.refl _ _).setCell (p := ⟨q, t, none⟩) (by show g + 1 ≤ q; omega) _
  · refine ⟨h.2.2.below.setCell (p := ⟨q, t, none⟩) (by show g ≤ q; omega) _, fun k h1 h2 => ?_⟩
    rw [Below.heap_setCell _ _ _ _ (by show k ≠ q; omega)]
    exact h.2.2.other k h1 h2

theorem DJ.drew {g B : Nat} {v : Value} {R : List (List Int)} {w0 w : World} (h : DJ g B v R w0 w) : DJ g B v R w0 w.drew := ⟨h.1.keep (fun _ _ _ => rfl), h.2.1, h.2.2.drew⟩
theorem dj_keep {g B a k q t : Nat} {u v val : Value} {R : List (List Int)} {w0 w' wx : World} (h : w'.cell? ⟨a, k, none⟩ = some u ∧ w'.cell? ⟨q, t, none⟩ = some v ∧ w'.frozen? ⟨q, t, none⟩ = false ∧ DJ g B val R w0 w') (hB : g < B) (ha : B ≤ a) (hq : B ≤ q) (hs : Src wx g) (ht : Thr g w' wx) :
    wx.cell? ⟨a, k, none⟩ = some u ∧ wx.cell? ⟨q, t, none⟩ = some v ∧ wx.frozen? ⟨q, t, none⟩ = false ∧ DJ g B val R w0 wx := by
  obtain ⟨h1, h2, h3, h4⟩ := h
  have l1 := cell_lt h1
  have l2 := cell_lt h2
  refine ⟨?_, ?_, ?_, h4.next hB hs ht⟩
  · rw [ht.cell (p := ⟨a, k, none⟩) l1 (by show a ≠ g; omega)]; exact h1
  · rw [ht.cell (p := ⟨q, t, none⟩) l2 (by show q ≠ g; omega)]; exact h2
  · rw [ht.frozen (p := ⟨q, t, none⟩) l2 (by show g < q; omega)]; exact h3

/-- What a drawn matrix is: some list of lists of integers, in new memory. -/
def DrawM (g : Nat) (w : World) (e : Ending) (w' : World) : Prop :=
  ∃ (a : Option Addr) (n cap : Nat) (R : List (List Int)), e = .returned (.slice a n cap) ∧ OwnM w' w.heap.size (.slice a n cap) R ∧ Src w' g ∧ Thr g w w'

/-- .. with few rows. -/
def DrawMB (g : Nat) (w : World) (e : Ending) (w' : World) : Prop :=
  ∃ (a : Option Addr) (n cap : Nat) (R : List (List Int)), e = .returned (.slice a n cap) ∧ n ≤ 200 ∧ OwnM w' w.heap.size (.slice a n cap) R ∧ Src w' g ∧ Thr g w w'
theorem DrawMB.less {g : Nat} {w w' : World} {e : Ending} (h : DrawMB g w e w') : DrawM g w e w' := by
  obtain ⟨a, n, cap, R, h1, -, h2⟩ := h
  exact ⟨a, n, cap, R, h1, h2⟩

set_option maxRecDepth 100000 in
set_option maxHeartbeats 4000000 in
theorem drawSizeB (g m n : Nat) (w : World) (h : Src w g) (m1 : 1 ≤ m) (m2 : m ≤ 100) (n1 : 1 ≤ n) (n2 : n ≤ 100) :
    Calls Tryz.prog 191 #[.pointer (some ⟨g, 0, none⟩), .int .i64 m, .int .i64 n] w (DrawMB g w) := by
  have hgs := h.lt
  have HS := Lib.hid h
  clear h
  go_enter Tryz.func191, Tryz.ntmps191
  go_wp2_with fail
  refine (sBottom m n _ m2 n2).mono ?_
  rintro e w1 ⟨a2, cap2, rfl, ho, hb⟩
  have hz1 := hb.size
  have HO1 := Lib.hid ho
  have HS1 := Lib.hid (HS.out.below (hb.mono (show g + 1 ≤ w.heap.size from hgs)))
  have HT1 := Lib.hid (Thr.of_below (g := g) hb (Nat.le_of_lt hgs))
  clear ho hb
  go_wp2_with fail
  refine (pick g _ 0 3 3 _ (HS1.out.alloc _) (by omega) (by omega) HS1.out.lt (litCells _ [2, 3, 5] _ _ rfl (by decide))).mono ?_
  rintro e w2 ⟨many, rfl, hmany, hs2, ht2⟩
  have HMW := Lib.hid hmany
  have hJ0 : DJ g w.heap.size (.slice a2 m cap2) (M.botM m n) w w2 :=
    ⟨(HO1.out.keep (w' := w1.alloc _) (fun k _ h2 => Below.heap_alloc _ _ _ h2)).thr ht2 hgs, hs2, (HT1.out.alloc (by omega) _).trans ht2⟩
  have HJ0 := Lib.hid hJ0
  clear hs2 ht2 hJ0 hmany HO1 HS1 HT1
  go_wp2
  go_loopw [9] (fun i wr => ∃ (k : Nat) (R : List (List Int)), k ≤ m ∧ i = .int .i64 k ∧ Hid (Rect R m n) ∧ Hid (DJ g w.heap.size (.slice a2 m cap2) R w wr)) (fun i _ => m - (intOf i).toNat)
  case atStart => exact ⟨0, _, Nat.zero_le _, rfl, rect_mk _ _ _, HJ0⟩
  case round =>
    obtain ⟨k, R, hk, rfl, HR, HJ⟩ := hrel
    obtain ⟨wo, rfl⟩ : ∃ x, x = wr := ⟨_, rfl⟩
    clear HJ0
    by_cases hlt : k < m
    · have hki : (k : Int) < (m : Int) := by omega
      go_wp2
      go_loopw [10] (fun j wr => ∃ (t : Nat) (R : List (List Int)), t ≤ n ∧ j = .int .i64 t ∧ Hid (Rect R m n) ∧ Hid (DJ g w.heap.size (.slice a2 m cap2) R w wr)) (fun j _ => n - (intOf j).toNat)
      case atStart => exact ⟨0, _, Nat.zero_le _, rfl, HR, HJ⟩
      case round =>
        obtain ⟨t, R2, ht, rfl, HR2, HJ2⟩ := hrel
        clear HR HJ
        by_cases htl : t < n
        · have hti : (t : Int) < (n : Int) := by omega
          go_wp2_with fail
          refine (next g many _ HMW.out HJ2.out.2.1).mono ?_
          rintro e w3 ⟨x, rfl, hx1, -, hs3, ht3⟩
          have HJ3 := Lib.hid (HJ2.out.next hgs hs3 ht3)
          clear hs3 ht3
          by_cases hx : 0 < x
          · obtain ⟨go_, q, L3, c3, x3, rfl, hg3, hq3, hL3, -, c31, c32, f31, ho3⟩ := HJ3.out.1.at k t hlt (by rw [HR2.out.2 k hlt]; exact htl)
            rw [HR2.out.2 k hlt] at hL3
            subst hL3
            clear ho3
            have HJ4 := Lib.hid HJ3.out.drew
            go_wp2
            go_region_with (first | (go_at_call 94; refine (next g 26 _ (by decide) HJ4.out.2.1).mono ?_; rintro e wx ⟨xx, rfl, hxx, -, hs, ht⟩; obtain ⟨c31x, c32x, f31x, hjx⟩ := dj_keep (w' := w3.drew) ⟨c31, c32, f31, HJ4.out⟩ hgs hg3 hq3 hs ht; have HJX := Lib.hid hjx; clear hs ht hjx))
            all_goals
              go_wp2
              exact ⟨⟨t + 1, _, by omega, by go_num, HR2.out.set k t _ hlt, HJX.out.store (Nat.le_refl _) hgs hq3 (HJX.out.1.put hlt (by rw [HR2.out.2 k hlt]; exact htl) c31x _)⟩, by simp [intOf]; omega⟩
          · go_wp2
            go_roundw
            case rel => exact ⟨t + 1, R2, by omega, by go_num, HR2, HJ3⟩
            case measure => simp [intOf]; omega
        · obtain rfl : t = n := by omega
          go_wp2
          go_roundw
          case rel => exact ⟨k + 1, R2, by omega, by go_num, HR2, HJ2⟩
          case measure => simp [intOf]; omega
    · obtain rfl : k = m := by omega
      go_wp2_with fail
      refine (next g 60 _ (by decide) HJ.out.2.1).mono ?_
      rintro e w3 ⟨x, rfl, hx1, -, hs3, ht3⟩
      have HJ3 := Lib.hid (HJ.out.next hgs hs3 ht3)
      clear hs3 ht3
      by_cases hx0 : x = 0
      · subst hx0
        obtain ⟨go_, q, L3, c3, x3, rfl, hg3, hq3, hL3, -, c31, c32, f31, ho3⟩ := HJ3.out.1.at 0 0 (by omega) (by rw [HR.out.2 0 (by omega)]; omega)
        rw [HR.out.2 0 (by omega)] at hL3
        subst hL3
        clear ho3
        have HJ4 := Lib.hid HJ3.out.drew
        go_wp2
        go_region_with (first | (go_at_call 189; refine (drawValue g _ HJ4.out.2.1).mono ?_; rintro e wx ⟨xx, rfl, hxx, hs, ht⟩; obtain ⟨c31x, c32x, f31x, hjx⟩ := dj_keep (w' := w3.drew) ⟨c31, c32, f31, HJ4.out⟩ hgs hg3 hq3 hs ht; have HJX := Lib.hid hjx; clear hs ht hjx))
        all_goals
          go_wp2
          go_ret
          have hfin := HJX.out.store (Nat.le_refl _) hgs hq3 (HJX.out.1.put (by omega) (by rw [HR.out.2 0 (by omega)]; omega) c31x xx)
          exact ⟨_, _, _, _, rfl, by omega, hfin.1, hfin.2.1, hfin.2.2⟩
      · have e0 : (x == 0) = false := by simpa using hx0
        by_cases hx1' : x = 1
        · subst hx1'
          have hz3 : w.heap.size ≤ w3.heap.size := HJ3.out.2.2.below.size
          have hro : Hid (Own (w3.alloc (.cells #[] 2)) w3.heap.size (.slice (some ⟨w3.heap.size, 0, none⟩) 0 0) []) := own_lit0 w3 _ (Nat.le_refl _)
          have hlen := HJ3.out.1.len
          have HLn := Lib.hid hlen
          clear hlen
          go_wp2_with (at_builtin; refine appendRow w3 _ rfl (.tmp 52) (.tmp 54) rfl w.heap.size _ _ _ _ k HJ3.out.1.len.symm rfl HJ3.out.1 (b_alloc w3 _) hro.out (by go_simp) (by rw [← HLn.out]; omega) hz3 ?_)
          intro b2 c2 w4 hO4 hb4 hk4
          have hg4 : ∀ j, g ≤ j → j < w.heap.size → w4.heap[j]? = w3.heap[j]? := fun j _ h2 => by
            rw [hb4.block j h2]; exact Below.heap_alloc _ _ _ (by omega)
          have hO5 := Lib.hid hO4
          have hT4 : Hid (Thr g w w4) := by
            refine ⟨HJ3.out.2.2.below.trans (((b_alloc w3 (.cells #[] 2)).mono (show g ≤ w3.heap.size by omega)).trans (hb4.mono (show g ≤ w.heap.size by omega))), fun j h1 h2 => ?_⟩
            rw [hg4 j (by omega) h2]
            exact HJ3.out.2.2.other j h1 h2
          have hS4 : Hid (Src w4 g) := by
            obtain ⟨sa, sn, sc, st, ss, q1, q2, q3⟩ := HJ3.out.2.1
            refine ⟨sa, sn, sc, st, ss, q1.of_block (hg4 g (Nat.le_refl _) hgs), ?_, q3⟩
            exact q2.below (((b_alloc w3 (.cells #[] 2)).mono (show g ≤ w3.heap.size by omega)).trans (hb4.mono (show g ≤ w.heap.size by omega)))
          clear hO4 hb4 hk4 hg4
          go_wp2
          go_ret
          exact ⟨_, _, _, _, rfl, by omega, hO5.out, hS4.out, hT4.out⟩
        · have e1 : (x == 1) = false := by simpa using hx1'
          by_cases hx2 : x = 2
          · subst hx2
            go_wp2
            go_ret
            exact ⟨_, _, _, [], rfl, by omega, ownM_nil _ _, HJ3.out.2.1, HJ3.out.2.2⟩
          · have e2 : (x == 2) = false := by simpa using hx2
            go_wp2
            go_ret
            exact ⟨_, _, _, _, rfl, by omega, HJ3.out.1, HJ3.out.2.1, HJ3.out.2.2⟩
theorem drawSize (g m n : Nat) (w : World) (h : Src w g) (m1 : 1 ≤ m) (m2 : m ≤ 100) (n1 : 1 ≤ n) (n2 : n ≤ 100) :
    Calls Tryz.prog 191 #[.pointer (some ⟨g, 0, none⟩), .int .i64 m, .int .i64 n] w (DrawM g w) :=
  (drawSizeB g m n w h m1 m2 n1 n2).mono fun _ _ h => h.less
end Go.Proofs.YtihpbgjiohnekabGreat.V

namespace Go.Proofs.YtihpbgjiohnekabGreat.V
open Go.RowKit


/-- A drawn matrix, as a law is handed it. -/
def DrawnM (w : World) (e : Ending) (w' : World) : Prop :=
  ∃ (a : Option Addr) (n cap : Nat) (R : List (List Int)), e = .returned (.slice a n cap) ∧ Mat w' a n R ∧ Below w.heap.size w w'

end Go.Proofs.YtihpbgjiohnekabGreat.V
