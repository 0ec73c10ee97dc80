/- Texts laid together: BarZ, Like. -/
import Derived.Test.YthonlfjjgmmnpabQd20
import Derived.Test.YthonlfjjgmmnpabQd26
import Derived.Test.YthonlfjjgmmnpabQd29
import Derived.Test.YthonlfjjgmmnpabQd15
import Derived.Test.YthonlfjjgmmnpabQd10
import Derived.Test.YthonlfjjgmmnpabRows
import Derived.Test.YthonlfjjgmmnpabQd1
import Derived.Test.YthonlfjjgmmnpabQd2
import Derived.WalkKit
import Derived.ProofKit
import Derived.WalkSmall
import Derived.Deep.QuietTactic
import Derived.BigQuiet
import Derived.BigRegion
import Derived.Deep.Draws
import Derived.Lib.Hide
import Derived.OpenShut
import Derived.Deep.OwnRows
import Derived.Test.YthonlfjjgmmnpabQd5
namespace Go.Proofs.Ythonlfjjgmmnpab
namespace V
open Go.RowKit
theorem fld1b (w : World) (f g : Fn) : (Instr.field 108 (.agg #[.func f #[] #[], .func g #[] #[]]) 1).run Try.prog w = .ok (.func g #[] #[]) w := by
  simp [Instr.field, part, asAgg, go_sem]
theorem M.star_shift {R : List (List Int)} {n : Nat} {a b : Int} (hp : M.noPos (M.shf (M.ent R) a b) n = true) : M.starL (M.mk n n (M.shf (M.ent R) a b)) n = (M.mk n n (M.starF (M.shf (M.ent R) a b) n), true) := by
  unfold M.starL
  rw [M.noPos_congr (A' := M.shf (M.ent R) a b) fun i j hi hj => M.ent_mk _ _ _ _ _ hi hj, hp, if_pos rfl]
  unfold M.starM
  rw [M.mk_congr fun i hi j hj => M.starF_congr (A' := M.shf (M.ent R) a b) (fun i j hi hj => M.ent_mk _ _ _ _ _ hi hj) hi hj]
set_option maxRecDepth 100000 in
set_option maxHeartbeats 4000000 in
theorem bestArcs (a : Option Addr) (n cap : Nat) (R : List (List Int)) (num den : Int) (w0 : World) (h : Mat w0 a n R) (hr : Rect R n n) (n1 : 1 ≤ n) (n2 : n ≤ 10) (hs : ∀ i j, i < n → j < n → M.Sm 1000000 (M.ent R i j)) (hab : M.Near num den) (hp : M.noPos (M.shf (M.ent R) num den) n = true) :
    Calls Try.prog 60 #[.slice a n cap, .agg #[.int .i64 num, .int .i64 den]] w0 (MPost n (M.mk n n (M.bestF (M.shf (M.ent R) num den) n)) w0) := by
  obtain ⟨w, hwd⟩ : ∃ w, w = w0.alloc (rbox num den) := ⟨_, rfl⟩
  have HX : Hid (Boxed w0 w num den) := by show Boxed _ _ _ _; rw [hwd]; exact boxed _ _ _
  have HA : Hid (Mat w a n R) := h.below HX.out.below
  have HR := Lib.hid hr
  have HS := Lib.hid hs
  have HN := Lib.hid hab
  have HSt := Lib.hid (M.star_shift hp)
  have hS := M.sh_sm hs hab
  have HSh := Lib.hid hS
  have HSb : Hid (∀ i j, i < n → j < n → M.Big (M.shf (M.ent R) num den i j)) := fun i j hi hj => M.big_sm (HSh.out i j hi hj) (by omega)
  have HTb : Hid (∀ i j, i < n → j < n → M.Big (M.starF (M.shf (M.ent R) num den) n i j)) := fun i j hi hj => M.big_sm (M.star_sm n2 HSh.out hp hi hj) (by omega)
  obtain ⟨p0, p1⟩ := HX.out.cells (Below.refl _ _)
  have hz := HX.out.size
  have hfld := fld1b
  clear h hr hs hab hp hS
  go_enter Try.func60, Try.ntmps60
  go_wp2_with fail
  simp only [← hwd] at *
  clear hwd
  refine (shiftedBy _ _ _ R num den _ HA.out HR.out n1 n2 HS.out HN.out).mono ?_
  rintro e w2 ⟨a2, cap2, rfl, hO, hb⟩
  generalize M.shf (M.ent R) num den = S at *
  have HO2 : Hid (OwnM w2 w.heap.size (.slice a2 n cap2) (M.mk n n (M.midG (M.bestF S n) S 0 0))) := by show OwnM _ _ _ _; rw [M.midG_zero]; exact hO
  obtain ⟨g, -, -, -, -, hgg, -⟩ := hO.tri (rect_mk _ _ _) 0 0 0 (by omega) (by omega) (by omega)
  have HSq : Hid (Sq w2 a2 n (M.mk n n S)) := ⟨hO.mat, rect_mk _ _ _, fun i j hi hj => by rw [M.ent_mk _ _ _ _ _ hi hj]; exact HSh.out i j hi hj, n1, n2⟩
  subst hgg
  have HB2 := Lib.hid hb
  clear hO hb p0 p1
  go_wp2_with fail
  refine (starOf _ _ _ (M.mk n n S) _ HSq.out).mono ?_
  rintro e w3 ⟨a3, m3, c3, rfl, hO, hb⟩
  rw [HSt.out] at hO
  have hm3 : m3 = n := by have := hO.len; simpa using this
  subst hm3
  have HO3 := Lib.hid hO
  have HB3 := Lib.hid hb
  rw [HSt.out]
  clear hO hb
  go_wp2_with fail
  refine (maxPlus _).mono ?_
  rintro e w4 ⟨rfl, hb⟩
  have HO4 := Lib.hid (HO3.out.below hb)
  have HB4 := Lib.hid (HB3.out.trans (hb.mono HB3.out.size))
  have HO24 := Lib.hid (HO2.out.below HB4.out)
  clear hb HO3 HB3
  go_wp2
  clear hfld
  have hz2 := HB2.out.size
  have hz4 := HB4.out.size
  go_loopw [9, 10, 25] (fun _ _ i wr => ∃ s : Nat, s ≤ m3 ∧ i = .int .i64 s ∧ Hid (OwnM wr w.heap.size (.slice (some ⟨g, 0, none⟩) m3 cap2) (M.mk m3 m3 (M.midG (M.bestF S m3) S s 0))) ∧ Hid (Below w.heap.size w wr) ∧ Hid (Same w2.heap.size w4.heap.size w4 wr) ∧ Hid (wr.heap[g]? = w2.heap[g]?)) (fun _ _ i _ => m3 - (intOf i).toNat)
  case atStart =>
    refine ⟨0, Nat.zero_le _, rfl, HO24, HB2.out.trans (HB4.out.mono hz2), Same.refl _ _ _, ?_⟩
    obtain ⟨g3, q3, c3', -, -, hgg, -, hrow3, -⟩ := HO2.out.tri (rect_mk _ _ _) 0 0 0 (by omega) (by omega) (by omega)
    injection hgg with hgg
    injection hgg with hgg
    subst hgg
    exact HB4.out.block g (cell_lt hrow3)
  case round =>
    obtain ⟨s, hs, rfl, HO, HB, HSm, HG⟩ := hrel
    obtain ⟨wp, rfl⟩ : ∃ x, x = wr := ⟨_, rfl⟩
    clear HO24
    by_cases hsl : s < m3
    · have hsi : (s : Int) < (m3 : Int) := by omega
      obtain ⟨g2, q, c, q2, c2, hgg, hq, hrow, hx0, -, -, -, -, -⟩ := HO.out.tri (rect_mk _ _ _) s s s hsl hsl hsl
      injection hgg with hgg
      injection hgg with hgg
      subst hgg
      have hq2 : q < w2.heap.size := by
        have e : w2.cell? ⟨g, s, none⟩ = some (.slice (some ⟨q, 0, none⟩) m3 c) := (World.cell?_of_block (w := wp) (a := ⟨g, s, none⟩) HG.out.symm).trans hrow
        obtain ⟨g3, q3, c3', -, -, hgg, -, hrow3, hx3, -⟩ := HO2.out.tri (rect_mk _ _ _) s 0 0 hsl (by omega) (by omega)
        injection hgg with hgg
        injection hgg with hgg
        subst hgg
        rw [e] at hrow3
        injection hrow3 with h1
        injection h1 with h1
        injection h1 with h1
        injection h1 with h1
        subst h1
        exact cell_lt hx3
      have hqg : q ≠ g := row_ne hx0 hrow
      have HRow := Lib.hid hrow
      have HQ2 := Lib.hid hq2
      clear hx0 hq2
      go_wp2
      clear hrow
      go_loopw [11, 12, 32] (fun _ _ j wr => ∃ t : Nat, t ≤ m3 ∧ j = .int .i64 t ∧ Hid (wr.cell? ⟨g, s, none⟩ = some (.slice (some ⟨q, 0, none⟩) m3 c)) ∧ Hid (OwnM wr w.heap.size (.slice (some ⟨g, 0, none⟩) m3 cap2) (M.mk m3 m3 (M.midG (M.bestF S m3) S s t))) ∧ Hid (Below w.heap.size w wr) ∧ Hid (Same w2.heap.size w4.heap.size w4 wr) ∧ Hid (wr.heap[g]? = w2.heap[g]?)) (fun _ _ j _ => m3 - (intOf j).toNat)
      case atStart => exact ⟨0, Nat.zero_le _, rfl, HRow, HO, HB, HSm, HG⟩
      case round =>
        clear HO HB HSm HG
        obtain ⟨t, ht, rfl, HRt, HO, HB, HSm, HG⟩ := hrel
        by_cases htl : t < m3
        · have hti : (t : Int) < (m3 : Int) := by omega
          obtain ⟨g2, q2, c2, -, -, hgg, -, h1, h2, -, -, -, h6, ho⟩ := HO.out.tri (rect_mk _ _ _) s t t hsl htl htl
          injection hgg with hgg
          injection hgg with hgg
          subst hgg
          rw [HRt.out] at h1
          injection h1 with h1
          injection h1 with h1 _ h1c
          injection h1 with h1
          injection h1 with h1
          subst h1
          clear h1c
          rw [M.ent_mk _ _ _ _ _ hsl htl, M.midG_at] at h2
          have HO3w : Hid (OwnM wr w2.heap.size (.slice a3 m3 c3) (M.mk m3 m3 (M.starF S m3))) := HO4.out.keep fun k k1 k2 => HSm.out k k1 k2
          obtain ⟨g5, q5, c5, -, -, rfl, -, hs1, hs2, -⟩ := HO3w.out.tri (rect_mk _ _ _) t s s htl hsl hsl
          rw [M.ent_mk _ _ _ _ _ htl hsl] at hs2
          obtain ⟨x, hx⟩ : ∃ x, x = S s t := ⟨_, rfl⟩
          obtain ⟨z, hz⟩ : ∃ z, z = M.starF S m3 t s := ⟨_, rfl⟩
          obtain ⟨u, hu⟩ : ∃ u, u = M.times x z := ⟨_, rfl⟩
          rw [← hx] at h2
          rw [← hz] at hs2
          have HC1 : ∀ w : World, Calls Try.prog 117 #[.int .i64 x, .int .i64 z] w fun e w' => e = .returned (.int .i64 u) ∧ w = w' := by
            intro w
            rw [hu]
            exact clTimes _ _ _ (by rw [hx]; exact HSb.out s t hsl htl) (by rw [hz]; exact HTb.out t s htl hsl)
          have HC1' := Lib.hid HC1
          clear HC1
          have hcr := HRt.out
          by_cases hu0 : u = 0
          · have e : M.bestF S m3 s t = S s t := by unfold M.bestF; rw [← hx, ← hz, ← hu, if_pos hu0]
            have HO5 : Hid (OwnM wr w.heap.size (.slice (some ⟨g, 0, none⟩) m3 cap2) (M.mk m3 m3 (M.midG (M.bestF S m3) S s (t + 1)))) := by
              show OwnM _ _ _ _; rw [← M.midG_same _ _ _ _ _ e]; exact HO.out
            have hub : (u != 0) = false := by simp [hu0]
            clear e ho hx hz hu hu0
            go_wp2_with (go_at_call 117; refine (HC1'.out _).mono ?_; rintro e w' ⟨rfl, rfl⟩)
            go_wp2
            go_roundw
            case rel => exact ⟨t + 1, by omega, by go_num, HRt, HO5, HB, HSm, HG⟩
            case measure => simp [intOf]; omega
          · have e : M.bestF S m3 s t = -1000000000000000 := by unfold M.bestF; rw [← hx, ← hz, ← hu, if_neg hu0]
            have hN := ho (-1000000000000000)
            rw [← e, M.midG_next _ _ _ _ _ hsl, e] at hN
            have HN5 := Lib.hid hN
            have hub : (u != 0) = true := by simp [hu0]
            have HRn : Hid ((wr.setCell ⟨q, t, none⟩ (.int .i64 (-1000000000000000))).cell? ⟨g, s, none⟩ = some (.slice (some ⟨q, 0, none⟩) m3 c)) :=
              (World.cell?_of_block (w := wr) (a := ⟨g, s, none⟩) (Below.heap_setCell wr ⟨q, t, none⟩ _ g (Ne.symm hqg))).trans HRt.out
            have HSn : Hid (Same w2.heap.size w4.heap.size w4 (wr.setCell ⟨q, t, none⟩ (.int .i64 (-1000000000000000)))) := fun k k1 k2 =>
              (Below.heap_setCell wr ⟨q, t, none⟩ _ k (by have := HQ2.out; show k ≠ q; omega)).trans (HSm.out k k1 k2)
            have HGn : Hid ((wr.setCell ⟨q, t, none⟩ (.int .i64 (-1000000000000000))).heap[g]? = w2.heap[g]?) := (Below.heap_setCell wr ⟨q, t, none⟩ _ g (Ne.symm hqg)).trans HG.out
            clear e ho hN hx hz hu hu0
            go_wp2_with (go_at_call 117; refine (HC1'.out _).mono ?_; rintro e w' ⟨rfl, rfl⟩)
            go_wp2
            go_roundw
            case rel => exact ⟨t + 1, by omega, by go_num, HRn, HN5, HB.out.setCell hq _, HSn, HGn⟩
            case measure => simp [intOf]; omega
        · obtain rfl : t = m3 := by omega
          have HO5 : Hid (OwnM wr w.heap.size (.slice (some ⟨g, 0, none⟩) t cap2) (M.mk t t (M.midG (M.bestF S t) S (s + 1) 0))) := by
            show OwnM _ _ _ _; rw [← M.midG_row_end]; exact HO.out
          go_wp2
          go_roundw
          case rel => exact ⟨s + 1, by omega, by go_num, HO5, HB, HSm, HG⟩
          case measure => simp [intOf]; omega
    · obtain rfl : s = m3 := by omega
      have HO5 : Hid (OwnM wp w.heap.size (.slice (some ⟨g, 0, none⟩) s cap2) (M.mk s s (M.bestF S s))) := by
        show OwnM _ _ _ _; rw [← M.midG_end]; exact HO.out
      go_wp2
      go_ret
      exact ⟨_, _, rfl, HO5.out.mono HX.out.below.size, HX.out.trans (HB.out.mono (by omega))⟩
end V
end Go.Proofs.Ythonlfjjgmmnpab

namespace Go.Proofs.Ythonlfjjgmmnpab
namespace V
open Go.RowKit
theorem smallestCycle0 (a : Option Addr) (n cap : Nat) (R : List (List Int)) (w0 : World) (hq : Sq w0 a n R) :
    Calls Try.prog 59 #[.slice a n cap, .int .i64 0] w0 fun e w' => ∃ b n' c', e = .returned (.slice b n' c') ∧ Own w' w0.heap.size (.slice b n' c') (M.overL (M.ent R) n (-1)) ∧ Below w0.heap.size w0 w' := by
  have h := smallestCycle a n cap R (-1) w0 hq
  rw [show (-1 : Int) + 1 = 0 from by decide] at h
  exact h
set_option maxRecDepth 100000 in
set_option maxHeartbeats 2000000 in
theorem bestCycle (a : Option Addr) (n cap : Nat) (R : List (List Int)) (w : World) (h : Mat w a n R) :
    Calls Try.prog 28 #[.slice a n cap] w (VRes (M.bestRes R) w) := by
  have HA := Lib.hid h
  have HRn := Lib.hid h.1
  by_cases hs : M.sqB R = true
  · have HS := Lib.hid hs
    obtain ⟨hr, n1, n2, hsm⟩ := sq_parts h hs
    have HR := Lib.hid hr
    have HSm := Lib.hid hsm
    have HQ := Lib.hid (sq_of h hs)
    by_cases hc : M.hasCyc (M.ent R) n = true
    · have HNo := Lib.hid hc
      obtain ⟨hbest, hnear, -⟩ := M.bestR_best n2 hsm hc
      have HNear := Lib.hid hnear
      have hp : M.noPos (M.shf (M.ent R) (M.bestR (M.ent R) n).1 (M.bestR (M.ent R) n).2) n = true :=
        M.noPos_of_walk n2 hsm hnear fun v s w _ _ h3 h4 _ h6 => hbest.2.2.1 v s w h3 h4 h6
      have hE : M.bestRes R = (M.overL (M.bestF (M.shf (M.ent R) (M.bestR (M.ent R) n).1 (M.bestR (M.ent R) n).2) n) n (-1), 0) := by
        unfold M.bestRes M.bestCyc
        rw [if_pos hs, HRn.out, if_pos hc, M.best_over n2 (M.sh_sm hsm hnear) hp]
      obtain ⟨r, hrr⟩ : ∃ r, r = M.bestR (M.ent R) n := ⟨_, rfl⟩
      rw [← hrr] at hp hE HNear
      have HP := Lib.hid hp
      have HE := Lib.hid hE
      have HRr := Lib.hid hrr
      obtain ⟨r1, r2⟩ := r
      have HBm : Hid (∀ i j, i < n → j < n → M.Sm 1000001000000 (M.bestF (M.shf (M.ent R) r1 r2) n i j)) := fun i j hi hj => by
        unfold M.bestF
        split
        · exact M.sh_sm HSm.out HNear.out i j hi hj
        · exact .inl rfl
      clear h hs hr hsm hc hbest hnear hp hE hrr
      go_enter Try.func28, Try.ntmps28
      go_wp2_with fail
      refine (isSquare_b _ _ _ R _ true HS.out HA.out).mono ?_
      rintro e w' ⟨rfl, rfl⟩
      go_wp2_with fail
      refine (hasCycle _ _ _ R _ HQ.out HSm.out).mono ?_
      rintro e w1 ⟨rfl, hb⟩
      rw [HNo.out]
      have HB1 := Lib.hid hb
      clear hb
      go_wp2_with fail
      refine (powerMean _ _ _ R _ (HQ.out.below HB1.out) HSm.out HNo.out).mono ?_
      rintro e w2 ⟨rfl, hb⟩
      rw [← HRr.out]
      have HB2 := Lib.hid (HB1.out.trans (hb.mono HB1.out.size))
      clear hb
      obtain ⟨wb, hwb⟩ : ∃ x, x = w2.alloc (rbox r1 r2) := ⟨_, rfl⟩
      have HX : Hid (Boxed w2 wb r1 r2) := by show Boxed _ _ _ _; rw [hwb]; exact boxed _ _ _
      have HBx := Lib.hid (HB2.out.trans (HX.out.below.mono HB2.out.size))
      go_wp2_with fail
      change Calls _ _ _ (w2.alloc (rbox r1 r2)) _
      rw [← hwb]
      clear hwb
      refine (bestArcs _ _ _ R r1 r2 _ (HA.out.below HBx.out) HR.out n1 n2 HSm.out HNear.out HP.out).mono ?_
      rintro e w3 ⟨b3, c3, rfl, ho, hb⟩
      have HO3 := Lib.hid ho
      have HB3 := Lib.hid (HBx.out.trans (hb.mono HBx.out.size))
      have HSq3 : Hid (Sq w3 b3 n (M.mk n n (M.bestF (M.shf (M.ent R) r1 r2) n))) := ⟨ho.mat, rect_mk _ _ _, fun i j hi hj => by rw [M.ent_mk _ _ _ _ _ hi hj]; exact HBm.out i j hi hj, n1, n2⟩
      clear ho hb
      go_wp2_with fail
      refine (smallestCycle0 _ _ _ (M.mk n n (M.bestF (M.shf (M.ent R) r1 r2) n)) _ HSq3.out).mono ?_
      rintro e w4 ⟨b4, n4, c4, rfl, ho, hb⟩
      rw [M.over_congr (A := M.bestF (M.shf (M.ent R) r1 r2) n) n2 HBm.out fun i j hi hj => M.ent_mk _ _ _ _ _ hi hj] at ho
      have HO4 := Lib.hid (ho.mono HB3.out.size)
      have HB4 := Lib.hid (HB3.out.trans (hb.mono HB3.out.size))
      clear ho hb
      go_wp2
      go_ret2
      rw [HE.out]
      exact ⟨_, _, _, rfl, HO4.out, HB4.out⟩
    · simp only [Bool.not_eq_true] at hc
      have HNo := Lib.hid hc
      have HE : Hid (M.bestRes R = ([], 4)) := by show _ = _; unfold M.bestRes; rw [if_pos hs, HRn.out, if_neg (by rw [hc]; exact Bool.false_ne_true)]
      clear h hs hr hsm hc
      go_enter Try.func28, Try.ntmps28
      go_wp2_with fail
      refine (isSquare_b _ _ _ R _ true HS.out HA.out).mono ?_
      rintro e w' ⟨rfl, rfl⟩
      go_wp2_with fail
      refine (hasCycle _ _ _ R _ HQ.out HSm.out).mono ?_
      rintro e w1 ⟨rfl, hb⟩
      rw [HNo.out]
      have HB1 := Lib.hid hb
      clear hb
      go_wp2
      go_ret2
      exact VRes.nil HE.out HB1.out
  · simp only [Bool.not_eq_true] at hs
    have HS := Lib.hid hs
    have HE : Hid (M.bestRes R = ([], 1)) := by show _ = _; unfold M.bestRes; rw [if_neg (by rw [hs]; exact Bool.false_ne_true)]
    clear h hs
    go_enter Try.func28, Try.ntmps28
    go_wp2_with fail
    refine (isSquare_b _ _ _ R _ false HS.out HA.out).mono ?_
    rintro e w' ⟨rfl, rfl⟩
    go_wp2
    go_ret2
    exact VRes.nil HE.out (Below.refl _ _)
end V
end Go.Proofs.Ythonlfjjgmmnpab

namespace Go.Proofs.Ythonlfjjgmmnpab.V
open Go.RowKit

set_option maxRecDepth 100000 in
set_option maxHeartbeats 400000 in
theorem likeInts (a : Option Addr) (n cap : Nat) (l : List Int) (a' : Option Addr) (n' cap' : Nat) (l' : List Int) (w : World) (h : Ints .i64 w a n l) (h' : Ints .i64 w a' n' l') (heq : l = l') :
    Calls Try.prog 54 #[.slice a n cap, .slice a' n' cap'] w fun e w' => e = .returned (.bool true) ∧ ∃ q, w' = w.drewN q := by
  subst heq
  obtain ⟨hl, hm, hr⟩ := h
  obtain ⟨hl', hm', hr'⟩ := h'
  obtain rfl : n = n' := by omega
  unfold maxLen at hm
  clear hm'
  have HL := Lib.hid hl
  clear hl hl'
  go_enter Try.func54, Try.ntmps54
  go_wp2
  go_loopw [5] (fun i wr => ∃ k : Nat, k ≤ n ∧ i = .int .i64 k ∧ ∃ q, wr = w.drewN q) (fun i _ => n - (intOf i).toNat)
  case atStart => exact ⟨0, Nat.zero_le _, rfl, 0, rfl⟩
  case round =>
    obtain ⟨k, hk, rfl, q, rfl⟩ := hrel
    by_cases hlt : k < n
    · rcases hr with h0 | ⟨b, off, rfl, hbl, hc⟩
      · omega
      rcases hr' with h0 | ⟨b', off', rfl, hbl', hc'⟩
      · omega
      have hck := hc k hlt
      have hck' := hc' k hlt
      obtain ⟨x, hx⟩ : ∃ x, x = l.getD k 0 := ⟨_, rfl⟩
      rw [← hx] at hck hck'
      clear hc hx hc'
      have hki : (k : Int) < (n : Int) := by omega
      go_wp2
      go_quiet (fail)
      go_wp2
      go_roundw
      case rel => exact ⟨k + 1, by omega, by go_num, _, rfl⟩
      case measure => simp [intOf]; omega
    · have hkn : k = n := by omega
      subst hkn
      clear hr hr'
      go_wp2
      go_ret
      exact ⟨rfl, q, rfl⟩

set_option maxRecDepth 100000 in
set_option maxHeartbeats 400000 in
theorem likeIntss (a : Option Addr) (n cap : Nat) (R : List (List Int)) (a' : Option Addr) (n' cap' : Nat) (R' : List (List Int)) (w : World) (h : Mat w a n R) (h' : Mat w a' n' R') (heq : R = R') :
    Calls Try.prog 24 #[.slice a n cap, .slice a' n' cap'] w fun e w' => e = .returned (.bool true) ∧ ∃ q, w' = w.drewN q := by
  subst heq
  have HM := Lib.hid h
  have HM' := Lib.hid h'
  obtain ⟨hl, hm, -⟩ := h
  obtain ⟨hl', -, -⟩ := h'
  obtain rfl : n = n' := by omega
  unfold maxLen at hm
  have HL := Lib.hid hl
  clear hl hl'
  go_enter Try.func24, Try.ntmps24
  go_wp2
  go_loopw [5] (fun i wr => ∃ k : Nat, k ≤ n ∧ i = .int .i64 k ∧ ∃ q, wr = w.drewN q) (fun i _ => n - (intOf i).toNat)
  case atStart => exact ⟨0, Nat.zero_le _, rfl, 0, rfl⟩
  case round =>
    obtain ⟨k, hk, rfl, q, rfl⟩ := hrel
    by_cases hlt : k < n
    · obtain ⟨b, off, ra, rc, L, l, rfl, hbl, hll, hc, hI⟩ := HM.out.at k hlt
      obtain ⟨b', off', ra', rc', L', l', rfl, hbl', hll', hc', hI'⟩ := HM'.out.at k hlt
      have HI := Lib.hid hI
      have HI' := Lib.hid hI'
      have HE := Lib.hid (hll.trans hll'.symm)
      clear hI hI' hll hll' HM HM'
      have hki : (k : Int) < (n : Int) := by omega
      go_wp2
      go_quiet ((go_at_call 54; exact q_more (likeInts _ _ _ l _ _ _ l' _ HI.out HI'.out HE.out)))
      go_wp2
      go_roundw
      case rel => exact ⟨k + 1, by omega, by go_num, _, rfl⟩
      case measure => simp [intOf]; omega
    · have hkn : k = n := by omega
      subst hkn
      go_wp2
      go_ret
      exact ⟨rfl, q, rfl⟩

/-- The same, said for the laws. -/
theorem likeM (a : Option Addr) (n cap : Nat) (R : List (List Int)) (a' : Option Addr) (n' cap' : Nat) (w : World) (h : Mat w a n R) (h' : Mat w a' n' R) :
    Calls Try.prog 24 #[.slice a n cap, .slice a' n' cap'] w fun e w' => e = .returned (.bool true) ∧ Below w.heap.size w w' := by
  refine (likeIntss _ _ _ _ _ _ _ _ _ h h' rfl).mono ?_
  rintro e w' ⟨rfl, q, rfl⟩
  exact ⟨rfl, b_draws _ _⟩
theorem likeV (a : Option Addr) (n cap : Nat) (l : List Int) (a' : Option Addr) (n' cap' : Nat) (w : World) (h : Ints .i64 w a n l) (h' : Ints .i64 w a' n' l) :
    Calls Try.prog 54 #[.slice a n cap, .slice a' n' cap'] w fun e w' => e = .returned (.bool true) ∧ Below w.heap.size w w' := by
  refine (likeInts _ _ _ _ _ _ _ _ _ h h' rfl).mono ?_
  rintro e w' ⟨rfl, q, rfl⟩
  exact ⟨rfl, b_draws _ _⟩
set_option maxRecDepth 100000 in
set_option maxHeartbeats 400000 in
theorem big (a : Option Addr) (n cap : Nat) (w : World) (h : n ≤ maxLen) :
    Calls Try.prog 7 #[.slice a n cap] w fun e w' => e = .returned (.bool (decide (4096 < n))) ∧ w = w' := by
  unfold maxLen at h
  go_enter Try.func7, Try.ntmps7
  go_wp2
  go_ret
  exact ⟨retB (decide_eq_decide.2 (by omega)), rfl⟩
end Go.Proofs.Ythonlfjjgmmnpab.V
