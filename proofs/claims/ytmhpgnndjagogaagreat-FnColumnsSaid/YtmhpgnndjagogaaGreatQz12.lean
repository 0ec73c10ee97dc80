/- Texts laid together: BarZ, BstZ, ReaZ. -/
import Derived.Test.YtmhpgnndjagogaaGreatQz9
import Derived.Test.YtmhpgnndjagogaaGreatQz11
import Derived.Test.YtmhpgnndjagogaaGreatQz7
import Derived.Test.YtmhpgnndjagogaaGreatQz8
import Derived.Test.YtmhpgnndjagogaaGreatQz5
set_option linter.unusedSimpArgs false
set_option linter.unusedVariables false
set_option linter.unusedSectionVars false
namespace Go.Proofs.YtmhpgnndjagogaaGreat
namespace V
open Go.RowKit
theorem fld1b (w : World) (f g : Fn) : (Instr.field 105 (.agg #[.func f #[] #[], .func g #[] #[]]) 1).run Tryz.prog w = .ok (.func g #[] #[]) w := by
  simp [Instr.field, part, asAgg, go_sem]
theorem M.star_shift {R : List (List Int)} {n : Nat} {a b : Int} (hp : M.noPos (M.shf (M.ent R) a b) n = true) : M.starL (M.mk n n (M.shf (M.ent R) a b)) n = (M.mk n n (M.starF (M.shf (M.ent R) a b) n), true) := by
  unfold M.starL
  rw [M.noPos_congr (A' := M.shf (M.ent R) a b) fun i j hi hj => M.ent_mk _ _ _ _ _ hi hj, hp, if_pos rfl]
  unfold M.starM
  rw [M.mk_congr fun i hi j hj => M.starF_congr (A' := M.shf (M.ent R) a b) (fun i j hi hj => M.ent_mk _ _ _ _ _ hi hj) hi hj]
set_option maxRecDepth 100000 in
set_option maxHeartbeats 4000000 in
theorem bestArcs (a : Option Addr) (n cap : Nat) (R : List (List Int)) (num den : Int) (w0 : World) (h : Mat w0 a n R) (hr : Rect R n n) (n1 : 1 ≤ n) (n2 : n ≤ 10) (hs : ∀ i j, i < n → j < n → M.Sm 1000000 (M.ent R i j)) (hab : M.Near num den) (hp : M.noPos (M.shf (M.ent R) num den) n = true) :
    Calls Tryz.prog 53 #[.slice a n cap, .agg #[.int .i64 num, .int .i64 den]] w0 (MPost n (M.mk n n (M.bestF (M.shf (M.ent R) num den) n)) w0) := by
  obtain ⟨w, hwd⟩ : ∃ w, w = w0.alloc (rbox num den) := ⟨_, rfl⟩
  have HX : Hid (Boxed w0 w num den) := by show Boxed _ _ _ _; rw [hwd]; exact boxed _ _ _
  have HA : Hid (Mat w a n R) := h.below HX.out.below
  have HR := Lib.hid hr
  have HS := Lib.hid hs
  have HN := Lib.hid hab
  have HSt := Lib.hid (M.star_shift hp)
  have hS := M.sh_sm hs hab
  have HSh := Lib.hid hS
  have HSb : Hid (∀ i j, i < n → j < n → M.Big (M.shf (M.ent R) num den i j)) := fun i j hi hj => M.big_sm (HSh.out i j hi hj) (by omega)
  have HTb : Hid (∀ i j, i < n → j < n → M.Big (M.starF (M.shf (M.ent R) num den) n i j)) := fun i j hi hj => M.big_sm (M.star_sm n2 HSh.out hp hi hj) (by omega)
  obtain ⟨p0, p1⟩ := HX.out.cells (Below.refl _ _)
  have hz := HX.out.size
  have hfld := fld1b
  clear h hr hs hab hp hS
  go_enter Tryz.func53, Tryz.ntmps53
  go_wp2_with fail
  simp only [← hwd] at *
  clear hwd
  refine (shiftedBy _ _ _ R num den _ HA.out HR.out n1 n2 HS.out HN.out).mono ?_
  rintro e w2 ⟨a2, cap2, rfl, hO, hb⟩
  generalize M.shf (M.ent R) num den = S at *
  have HO2 : Hid (OwnM w2 w.heap.size (.slice a2 n cap2) (M.mk n n (M.midG (M.bestF S n) S 0 0))) := by show OwnM _ _ _ _; rw [M.midG_zero]; exact hO
  obtain ⟨g, -, -, -, -, hgg, -⟩ := hO.tri (rect_mk _ _ _) 0 0 0 (by omega) (by omega) (by omega)
  have HSq : Hid (Sq w2 a2 n (M.mk n n S)) := ⟨hO.mat, rect_mk _ _ _, fun i j hi hj => by rw [M.ent_mk _ _ _ _ _ hi hj]; exact HSh.out i j hi hj, n1, n2⟩
  subst hgg
  have HB2 := Lib.hid hb
  clear hO hb p0 p1
  go_wp2_with fail
  refine (starOf _ _ _ (M.mk n n S) _ HSq.out).mono ?_
  rintro e w3 ⟨a3, m3, c3, rfl, hO, hb⟩
  rw [HSt.out] at hO
  have hm3 : m3 = n := by have := hO.len; simpa using this
  subst hm3
  have HO3 := Lib.hid hO
  have HB3 := Lib.hid hb
  rw [HSt.out]
  clear hO hb
  go_wp2_with fail
  refine (maxPlus _).mono ?_
  rintro e w4 ⟨rfl, hb⟩
  have HO4 := Lib.hid (HO3.out.below hb)
  have HB4 := Lib.hid (HB3.out.trans (hb.mono HB3.out.size))
  have HO24 := Lib.hid (HO2.out.below HB4.out)
  clear hb HO3 HB3
  go_wp2
  clear hfld
  have hz2 := HB2.out.size
  have hz4 := HB4.out.size
  go_loopw [9, 10, 25] (fun _ _ i wr => ∃ s : Nat, s ≤ m3 ∧ i = .int .i64 s ∧ Hid (OwnM wr w.heap.size (.slice (some ⟨g, 0, none⟩) m3 cap2) (M.mk m3 m3 (M.midG (M.bestF S m3) S s 0))) ∧ Hid (Below w.heap.size w wr) ∧ Hid (Same w2.heap.size w4.heap.size w4 wr) ∧ Hid (wr.heap[g]? = w2.heap[g]?)) (fun _ _ i _ => m3 - (intOf i).toNat)
  case atStart =>
    refine ⟨0, Nat.zero_le _, rfl, HO24, HB2.out.trans (HB4.out.mono hz2), Same.refl _ _ _, ?_⟩
    obtain ⟨g3, q3, c3', -, -, hgg, -, hrow3, -⟩ := HO2.out.tri (rect_mk _ _ _) 0 0 0 (by omega) (by omega) (by omega)
    injection hgg with hgg
    injection hgg with hgg
    subst hgg
    exact HB4.out.block g (cell_lt hrow3)
  case round =>
    obtain ⟨s, hs, rfl, HO, HB, HSm, HG⟩ := hrel
    obtain ⟨wp, rfl⟩ : ∃ x, x = wr := ⟨_, rfl⟩
    clear HO24
    by_cases hsl : s < m3
    · have hsi : (s : Int) < (m3 : Int) := by omega
      obtain ⟨g2, q, c, q2, c2, hgg, hq, hrow, hx0, -, -, -, -, -⟩ := HO.out.tri (rect_mk _ _ _) s s s hsl hsl hsl
      injection hgg with hgg
      injection hgg with hgg
      subst hgg
      have hq2 : q < w2.heap.size := by
        have e : w2.cell? ⟨g, s, none⟩ = some (.slice (some ⟨q, 0, none⟩) m3 c) := (World.cell?_of_block (w := wp) (a := ⟨g, s, none⟩) HG.out.symm).trans hrow
        obtain ⟨g3, q3, c3', -, -, hgg, -, hrow3, hx3, -⟩ := HO2.out.tri (rect_mk _ _ _) s 0 0 hsl (by omega) (by omega)
        injection hgg with hgg
        injection hgg with hgg
        subst hgg
        rw [e] at hrow3
        injection hrow3 with h1
        injection h1 with h1
        injection h1 with h1
        injection h1 with h1
        subst h1
        exact cell_lt hx3
      have hqg : q ≠ g := row_ne hx0 hrow
      have HRow := Lib.hid hrow
      have HQ2 := Lib.hid hq2
      clear hx0 hq2
      go_wp2
      clear hrow
      go_loopw [11, 12, 32] (fun _ _ j wr => ∃ t : Nat, t ≤ m3 ∧ j = .int .i64 t ∧ Hid (wr.cell? ⟨g, s, none⟩ = some (.slice (some ⟨q, 0, none⟩) m3 c)) ∧ Hid (OwnM wr w.heap.size (.slice (some ⟨g, 0, none⟩) m3 cap2) (M.mk m3 m3 (M.midG (M.bestF S m3) S s t))) ∧ Hid (Below w.heap.size w wr) ∧ Hid (Same w2.heap.size w4.heap.size w4 wr) ∧ Hid (wr.heap[g]? = w2.heap[g]?)) (fun _ _ j _ => m3 - (intOf j).toNat)
      case atStart => exact ⟨0, Nat.zero_le _, rfl, HRow, HO, HB, HSm, HG⟩
      case round =>
        clear HO HB HSm HG
        obtain ⟨t, ht, rfl, HRt, HO, HB, HSm, HG⟩ := hrel
        by_cases htl : t < m3
        · have hti : (t : Int) < (m3 : Int) := by omega
          obtain ⟨g2, q2, c2, -, -, hgg, -, h1, h2, -, -, -, h6, ho⟩ := HO.out.tri (rect_mk _ _ _) s t t hsl htl htl
          injection hgg with hgg
          injection hgg with hgg
          subst hgg
          rw [HRt.out] at h1
          injection h1 with h1
          injection h1 with h1 _ h1c
          injection h1 with h1
          injection h1 with h1
          subst h1
          clear h1c
          rw [M.ent_mk _ _ _ _ _ hsl htl, M.midG_at] at h2
          have HO3w : Hid (OwnM wr w2.heap.size (.slice a3 m3 c3) (M.mk m3 m3 (M.starF S m3))) := HO4.out.keep fun k k1 k2 => HSm.out k k1 k2
          obtain ⟨g5, q5, c5, -, -, rfl, -, hs1, hs2, -⟩ := HO3w.out.tri (rect_mk _ _ _) t s s htl hsl hsl
          rw [M.ent_mk _ _ _ _ _ htl hsl] at hs2
          obtain ⟨x, hx⟩ : ∃ x, x = S s t := ⟨_, rfl⟩
          obtain ⟨z, hz⟩ : ∃ z, z = M.starF S m3 t s := ⟨_, rfl⟩
          obtain ⟨u, hu⟩ : ∃ u, u = M.times x z := ⟨_, rfl⟩
          rw [← hx] at h2
          rw [← hz] at hs2
          have HC1 : ∀ w : World, Calls Tryz.prog 164 #[.int .i64 x, .int .i64 z] w fun e w' => e = .returned (.int .i64 u) ∧ w = w' := by
            intro w
            rw [hu]
            exact clTimes _ _ _ (by rw [hx]; exact HSb.out s t hsl htl) (by rw [hz]; exact HTb.out t s htl hsl)
          have HC1' := Lib.hid HC1
          clear HC1
          have hcr := HRt.out
          by_cases hu0 : u = 0
          · have e : M.bestF S m3 s t = S s t := by unfold M.bestF; rw [← hx, ← hz, ← hu, if_pos hu0]
            have HO5 : Hid (OwnM wr w.heap.size (.slice (some ⟨g, 0, none⟩) m3 cap2) (M.mk m3 m3 (M.midG (M.bestF S m3) S s (t + 1)))) := by
              show OwnM _ _ _ _; rw [← M.midG_same _ _ _ _ _ e]; exact HO.out
            have hub : (u != 0) = false := by simp [hu0]
            clear e ho hx hz hu hu0
            go_wp2_with (go_at_call 164; refine (HC1'.out _).mono ?_; rintro e w' ⟨rfl, rfl⟩)
            go_wp2
            go_roundw
            case rel => exact ⟨t + 1, by omega, by go_num, HRt, HO5, HB, HSm, HG⟩
            case measure => simp [intOf]; omega
          · have e : M.bestF S m3 s t = -1000000000000000 := by unfold M.bestF; rw [← hx, ← hz, ← hu, if_neg hu0]
            have hN := ho (-1000000000000000)
            rw [← e, M.midG_next _ _ _ _ _ hsl, e] at hN
            have HN5 := Lib.hid hN
            have hub : (u != 0) = true := by simp [hu0]
            have HRn : Hid ((wr.setCell ⟨q, t, none⟩ (.int .i64 (-1000000000000000))).cell? ⟨g, s, none⟩ = some (.slice (some ⟨q, 0, none⟩) m3 c)) :=
              (World.cell?_of_block (w := wr) (a := ⟨g, s, none⟩) (Below.heap_setCell wr ⟨q, t, none⟩ _ g (Ne.symm hqg))).trans HRt.out
            have HSn : Hid (Same w2.heap.size w4.heap.size w4 (wr.setCell ⟨q, t, none⟩ (.int .i64 (-1000000000000000)))) := fun k k1 k2 =>
              (Below.heap_setCell wr ⟨q, t, none⟩ _ k (by have := HQ2.out; show k ≠ q; omega)).trans (HSm.out k k1 k2)
            have HGn : Hid ((wr.setCell ⟨q, t, none⟩ (.int .i64 (-1000000000000000))).heap[g]? = w2.heap[g]?) := (Below.heap_setCell wr ⟨q, t, none⟩ _ g (Ne.symm hqg)).trans HG.out
            clear e ho hN hx hz hu hu0
            go_wp2_with (go_at_call 164; refine (HC1'.out _).mono ?_; rintro e w' ⟨rfl, rfl⟩)
            go_wp2
            go_roundw
            case rel => exact ⟨t + 1, by omega, by go_num, HRn, HN5, HB.out.setCell hq _, HSn, HGn⟩
            case measure => simp [intOf]; omega
        · obtain rfl : t = m3 := by omega
          have HO5 : Hid (OwnM wr w.heap.size (.slice (some ⟨g, 0, none⟩) t cap2) (M.mk t t (M.midG (M.bestF S t) S (s + 1) 0))) := by
            show OwnM _ _ _ _; rw [← M.midG_row_end]; exact HO.out
          go_wp2
          go_roundw
          case rel => exact ⟨s + 1, by omega, by go_num, HO5, HB, HSm, HG⟩
          case measure => simp [intOf]; omega
    · obtain rfl : s = m3 := by omega
      have HO5 : Hid (OwnM wp w.heap.size (.slice (some ⟨g, 0, none⟩) s cap2) (M.mk s s (M.bestF S s))) := by
        show OwnM _ _ _ _; rw [← M.midG_end]; exact HO.out
      go_wp2
      go_ret
      exact ⟨_, _, rfl, HO5.out.mono HX.out.below.size, HX.out.trans (HB.out.mono (by omega))⟩
end V
end Go.Proofs.YtmhpgnndjagogaaGreat

namespace Go.Proofs.YtmhpgnndjagogaaGreat
namespace V
open Go.RowKit
theorem smallestCycle0 (a : Option Addr) (n cap : Nat) (R : List (List Int)) (w0 : World) (hq : Sq w0 a n R) :
    Calls Tryz.prog 52 #[.slice a n cap, .int .i64 0] w0 fun e w' => ∃ b n' c', e = .returned (.slice b n' c') ∧ Own w' w0.heap.size (.slice b n' c') (M.overL (M.ent R) n (-1)) ∧ Below w0.heap.size w0 w' := by
  have h := smallestCycle a n cap R (-1) w0 hq
  rw [show (-1 : Int) + 1 = 0 from by decide] at h
  exact h
set_option maxRecDepth 100000 in
set_option maxHeartbeats 2000000 in
theorem bestCycle (a : Option Addr) (n cap : Nat) (R : List (List Int)) (w : World) (h : Mat w a n R) :
    Calls Tryz.prog 17 #[.slice a n cap] w (VRes (M.bestRes R) w) := by
  have HA := Lib.hid h
  have HRn := Lib.hid h.1
  by_cases hs : M.sqB R = true
  · have HS := Lib.hid hs
    obtain ⟨hr, n1, n2, hsm⟩ := sq_parts h hs
    have HR := Lib.hid hr
    have HSm := Lib.hid hsm
    have HQ := Lib.hid (sq_of h hs)
    by_cases hc : M.hasCyc (M.ent R) n = true
    · have HNo := Lib.hid hc
      obtain ⟨hbest, hnear, -⟩ := M.bestR_best n2 hsm hc
      have HNear := Lib.hid hnear
      have hp : M.noPos (M.shf (M.ent R) (M.bestR (M.ent R) n).1 (M.bestR (M.ent R) n).2) n = true :=
        M.noPos_of_walk n2 hsm hnear fun v s w _ _ h3 h4 _ h6 => hbest.2.2.1 v s w h3 h4 h6
      have hE : M.bestRes R = (M.overL (M.bestF (M.shf (M.ent R) (M.bestR (M.ent R) n).1 (M.bestR (M.ent R) n).2) n) n (-1), 0) := by
        unfold M.bestRes M.bestCyc
        rw [if_pos hs, HRn.out, if_pos hc, M.best_over n2 (M.sh_sm hsm hnear) hp]
      obtain ⟨r, hrr⟩ : ∃ r, r = M.bestR (M.ent R) n := ⟨_, rfl⟩
      rw [← hrr] at hp hE HNear
      have HP := Lib.hid hp
      have HE := Lib.hid hE
      have HRr := Lib.hid hrr
      obtain ⟨r1, r2⟩ := r
      have HBm : Hid (∀ i j, i < n → j < n → M.Sm 1000001000000 (M.bestF (M.shf (M.ent R) r1 r2) n i j)) := fun i j hi hj => by
        unfold M.bestF
        split
        · exact M.sh_sm HSm.out HNear.out i j hi hj
        · exact .inl rfl
      clear h hs hr hsm hc hbest hnear hp hE hrr
      go_enter Tryz.func17, Tryz.ntmps17
      go_wp2_with fail
      refine (isSquare_b _ _ _ R _ true HS.out HA.out).mono ?_
      rintro e w' ⟨rfl, rfl⟩
      go_wp2_with fail
      refine (hasCycle _ _ _ R _ HQ.out HSm.out).mono ?_
      rintro e w1 ⟨rfl, hb⟩
      rw [HNo.out]
      have HB1 := Lib.hid hb
      clear hb
      go_wp2_with fail
      refine (powerMean _ _ _ R _ (HQ.out.below HB1.out) HSm.out HNo.out).mono ?_
      rintro e w2 ⟨rfl, hb⟩
      rw [← HRr.out]
      have HB2 := Lib.hid (HB1.out.trans (hb.mono HB1.out.size))
      clear hb
      obtain ⟨wb, hwb⟩ : ∃ x, x = w2.alloc (rbox r1 r2) := ⟨_, rfl⟩
      have HX : Hid (Boxed w2 wb r1 r2) := by show Boxed _ _ _ _; rw [hwb]; exact boxed _ _ _
      have HBx := Lib.hid (HB2.out.trans (HX.out.below.mono HB2.out.size))
      go_wp2_with fail
      change Calls _ _ _ (w2.alloc (rbox r1 r2)) _
      rw [← hwb]
      clear hwb
      refine (bestArcs _ _ _ R r1 r2 _ (HA.out.below HBx.out) HR.out n1 n2 HSm.out HNear.out HP.out).mono ?_
      rintro e w3 ⟨b3, c3, rfl, ho, hb⟩
      have HO3 := Lib.hid ho
      have HB3 := Lib.hid (HBx.out.trans (hb.mono HBx.out.size))
      have HSq3 : Hid (Sq w3 b3 n (M.mk n n (M.bestF (M.shf (M.ent R) r1 r2) n))) := ⟨ho.mat, rect_mk _ _ _, fun i j hi hj => by rw [M.ent_mk _ _ _ _ _ hi hj]; exact HBm.out i j hi hj, n1, n2⟩
      clear ho hb
      go_wp2_with fail
      refine (smallestCycle0 _ _ _ (M.mk n n (M.bestF (M.shf (M.ent R) r1 r2) n)) _ HSq3.out).mono ?_
      rintro e w4 ⟨b4, n4, c4, rfl, ho, hb⟩
      rw [M.over_congr (A := M.bestF (M.shf (M.ent R) r1 r2) n) n2 HBm.out fun i j hi hj => M.ent_mk _ _ _ _ _ hi hj] at ho
      have HO4 := Lib.hid (ho.mono HB3.out.size)
      have HB4 := Lib.hid (HB3.out.trans (hb.mono HB3.out.size))
      clear ho hb
      go_wp2
      go_ret2
      rw [HE.out]
      exact ⟨_, _, _, rfl, HO4.out, HB4.out⟩
    · simp only [Bool.not_eq_true] at hc
      have HNo := Lib.hid hc
      have HE : Hid (M.bestRes R = ([], 4)) := by show _ = _; unfold M.bestRes; rw [if_pos hs, HRn.out, if_neg (by rw [hc]; exact Bool.false_ne_true)]
      clear h hs hr hsm hc
      go_enter Tryz.func17, Tryz.ntmps17
      go_wp2_with fail
      refine (isSquare_b _ _ _ R _ true HS.out HA.out).mono ?_
      rintro e w' ⟨rfl, rfl⟩
      go_wp2_with fail
      refine (hasCycle _ _ _ R _ HQ.out HSm.out).mono ?_
      rintro e w1 ⟨rfl, hb⟩
      rw [HNo.out]
      have HB1 := Lib.hid hb
      clear hb
      go_wp2
      go_ret2
      exact VRes.nil HE.out HB1.out
  · simp only [Bool.not_eq_true] at hs
    have HS := Lib.hid hs
    have HE : Hid (M.bestRes R = ([], 1)) := by show _ = _; unfold M.bestRes; rw [if_neg (by rw [hs]; exact Bool.false_ne_true)]
    clear h hs
    go_enter Tryz.func17, Tryz.ntmps17
    go_wp2_with fail
    refine (isSquare_b _ _ _ R _ false HS.out HA.out).mono ?_
    rintro e w' ⟨rfl, rfl⟩
    go_wp2
    go_ret2
    exact VRes.nil HE.out (Below.refl _ _)
end V
end Go.Proofs.YtmhpgnndjagogaaGreat

namespace Go.Proofs.YtmhpgnndjagogaaGreat
namespace M
/-- A list that the search may stand at. -/
def Cyc0 (A : Nat → Nat → Int) (n : Nat) (q : List Int) : Prop :=
  (q = [] ∧ hasCyc A n = false) ∨ (nodesB n q = true ∧ diffB q = true ∧ 1 ≤ q.length ∧ arW A q ≠ -1000000000000000)
def best2 (R : List (List Int)) : List Int := if hasCyc (ent R) R.length then bestCyc R else []
theorem fnd_arW {A : Nat → Nat → Int} {n : Nat} {ov : Int} {q : List Int} (hn : n ≤ 10) (hA : ∀ i j, i < n → j < n → Sm 1000000 (A i j)) (h : Fnd A n ov q) : arW A q ≠ -1000000000000000 := by
  obtain ⟨g1, g2, g3, g4, g5, g6⟩ := h
  have hw : arW A q = wkc A (vx q) (q.length - 1) + A (vx q 0) (lastV q) := times_fin g4 g5
  intro e
  have hs := arW_sm hA g1 g3
  have hl := diffB_len g1 g2
  have h1 := hA (vx q 0) (lastV q) (vx_lt g1 (by omega)) (vx_lt g1 (by omega))
  have h2 := wkc_sm (A := A) (v := vx q) (t := q.length - 1) (fun u hu => sm_wide (hA _ _ (vx_lt g1 (by omega)) (vx_lt g1 (by omega))))
  unfold Sm at h1 h2 hs
  have hk : ((q.length - 1 : Nat) : Int) ≤ 9 := by omega
  generalize ((q.length - 1 : Nat) : Int) = k at *
  omega
theorem cyc0_start {A : Nat → Nat → Int} {n : Nat} (hn : n ≤ 10) (hA : ∀ i j, i < n → j < n → Sm 1000000 (A i j)) : Cyc0 A n (overL A n (-1000000000000000)) := by
  have hW : ∀ i j, i < n → j < n → Sm 1000001000000 (A i j) := fun i j hi hj => sm_wide (hA i j hi hj)
  have h := over_bot hn hA
  by_cases e : (overL A n (-1000000000000000)).length = 0
  · left
    rw [← h]
    exact ⟨List.eq_nil_of_length_eq_zero e, decide_eq_false (fun k => k e)⟩
  · right
    have hf := over_fnd hn hW e
    exact ⟨hf.1, hf.2.1, hf.2.2.1, fnd_arW hn hA hf⟩
theorem cyc0_mean {R : List (List Int)} {q : List Int} (h : nodesB R.length q = true ∧ diffB q = true ∧ 1 ≤ q.length ∧ arW (ent R) q ≠ -1000000000000000) : mean2 R q = (cMean (ent R) q, true) := by
  obtain ⟨h1, h2, h3, h4⟩ := h
  unfold mean2
  rw [if_pos (by unfold cycB; rw [h1, h2, around_arW, decide_eq_true h3, decide_eq_true h4]; rfl)]
  rfl
end M
namespace V
open Go.RowKit
/-- The integers of a slice, as the world has them. -/
def readL (w : World) : Value → List Int
  | .slice (some ⟨b, off, _⟩) n _ => (List.range n).map fun i => match w.cell? ⟨b, off + i, none⟩ with | some (.int _ x) => x | _ => 0
  | _ => []
theorem readL_ints {w : World} {a : Option Addr} {n c : Nat} {l : List Int} (h : Ints .i64 w a n l) : readL w (.slice a n c) = l := by
  obtain ⟨h1, -, h3⟩ := h
  rcases h3 with h3 | ⟨b, off, rfl, -, h3⟩
  · subst h3
    obtain rfl : l = [] := List.eq_nil_of_length_eq_zero h1
    cases a <;> rfl
  · show (List.range n).map _ = l
    apply List.ext_getElem
    · simp [h1]
    · intro k k1 k2
      have e := h3 k (by omega)
      simp only [List.getElem_map, List.getElem_range, e]
      simp [k2]
theorem readL_own {w : World} {B n c : Nat} {a : Option Addr} {l : List Int} (h : Own w B (.slice a n c) l) : readL w (.slice a n c) = l := by
  exact readL_ints h.ints'
theorem own_caps {w : World} {B n c : Nat} {a : Option Addr} {l : List Int} (h : Own w B (.slice a n c) l) : n ≤ c ∧ c ≤ maxLen := by
  have hl := h.len
  obtain ⟨a', c', hv, h1, h2, -⟩ := own_form h
  injection hv with e1 e2 e3
  subst e3
  exact ⟨by omega, h2⟩
set_option maxRecDepth 100000 in
set_option maxHeartbeats 2000000 in
theorem sBest (a : Option Addr) (n cap : Nat) (R : List (List Int)) (w : World) (h : Mat w a n R) (hs : M.sqB R = true) :
    Calls Tryz.prog 55 #[.slice a n cap] w fun e w' => ∃ b' n' c', e = .returned (.tuple #[.slice b' n' c', .bool (M.hasCyc (M.ent R) n)]) ∧ Own w' w.heap.size (.slice b' n' c') (M.best2 R) ∧ Below w.heap.size w w' := by
  have HS := Lib.hid (sq_of h hs)
  have HMt := Lib.hid h
  have HQ := Lib.hid hs
  have HSm := Lib.hid (sm_of h hs)
  have hRn : R.length = n := h.1
  have HRn := Lib.hid hRn
  obtain ⟨n1, n2⟩ := (sq_of h hs).2.2.2
  clear h hs hRn
  go_enter Tryz.func55, Tryz.ntmps55
  go_wp2_with fail
  refine (sOver _ _ _ R (-1000000000000000) _ HS.out).mono ?_
  rintro e w1 ⟨b1, N1, c1, rfl, ho, hb⟩
  have HO1 := Lib.hid ho
  have HB1 := Lib.hid hb
  have HC1 := Lib.hid (M.cyc0_start n2 HSm.out)
  clear ho hb
  go_wp2
  go_loopw [4, 5, 6, 7] (fun v _ _ _ wr => ∃ (b : Option Addr) (N c : Nat) (q : List Int), v = .slice b N c ∧ Hid (Own wr w.heap.size (.slice b N c) q) ∧ Hid (M.Cyc0 (M.ent R) n q) ∧ Hid (Below w.heap.size w wr)) (fun v _ _ _ wr => M.mu (M.ent R) (readL wr v))
  case atStart => exact ⟨b1, N1, c1, _, rfl, HO1, HC1, HB1⟩
  case round =>
    clear HO1 HB1 HC1
    obtain ⟨b, N, c, q, rfl, HO, HC, HB⟩ := hrel
    obtain ⟨wo, rfl⟩ : ∃ x, x = wr := ⟨_, rfl⟩
    have hNl := HO.out.len
    rcases HC.out with ⟨hq0, hno⟩ | hq
    · have hN0 : N = 0 := by rw [hNl, hq0]; rfl
      have HE : Hid (M.best2 R = []) := by show _ = _; unfold M.best2; rw [HRn.out, hno]; rfl
      have HNo := Lib.hid hno
      subst hN0
      clear hq0 hno hNl
      go_wp2
      go_ret2
      refine ⟨none, 0, 0, ?_, ?_, HB.out⟩
      · rw [HNo.out]; rfl
      · rw [HE.out]; exact own_nil _ _
    · have hlen := M.diffB_len hq.1 hq.2.1
      have hN1 : 0 < N := by omega
      have hcap := own_caps HO.out
      have HM2 : Hid (M.mean2 R q = (M.cMean (M.ent R) q, true)) := M.cyc0_mean (by rw [HRn.out]; exact hq)
      have HCap := Lib.hid hcap
      have HNear := Lib.hid (M.cMean_near HSm.out hq.2.2.1 (by omega) hq.1 hq.2.2.2).1
      have HQq := Lib.hid hq
      have HLen := Lib.hid hlen
      have HNl := Lib.hid hNl
      obtain ⟨r, hr⟩ : ∃ r, r = M.cMean (M.ent R) q := ⟨_, rfl⟩
      have HR := Lib.hid hr
      obtain ⟨r1, r2⟩ := r
      have HSh : Hid (∀ i j, i < n → j < n → M.Sm 1000001000000 (M.shf (M.ent R) r1 r2 i j)) := by
        show ∀ i j, _
        have := M.sh_sm HSm.out HNear.out
        rw [← hr] at this; exact this
      have HNe : Hid (M.Near r1 r2) := by show M.Near r1 r2; have := HNear.out; rw [← hr] at this; exact this
      clear hq hlen hcap hr hNl
      go_wp2_with fail
      refine (sMean _ _ _ R _ _ _ q _ (HMt.out.below HB.out) HQ.out HO.out.ints' HCap.out.1 HCap.out.2).mono ?_
      rintro e w2 ⟨rfl, hb2⟩
      rw [HM2.out, ← HR.out]
      have HB2 := Lib.hid hb2
      clear hb2
      go_wp2_with fail
      obtain ⟨wb, hwb⟩ : ∃ x, x = w2.alloc (rbox r1 r2) := ⟨_, rfl⟩
      have HX : Hid (Boxed w2 wb r1 r2) := by show Boxed _ _ _ _; rw [hwb]; exact boxed _ _ _
      have HBw := Lib.hid (HB.out.trans (HB2.out.mono HB.out.size))
      have HBx := Lib.hid (HBw.out.trans (HX.out.below.mono HBw.out.size))
      change Calls _ _ _ (w2.alloc (rbox r1 r2)) _
      rw [← hwb]
      clear hwb
      refine (sShift _ _ _ R r1 r2 _ (HMt.out.below HBx.out) HS.out.2.1 n1 n2 HSm.out HNe.out).mono ?_
      rintro e w3 ⟨b3, c3, rfl, ho, hb⟩
      have HO3 := Lib.hid ho
      have HB3 := Lib.hid hb
      clear ho hb
      obtain ⟨q', hq'⟩ : ∃ q', q' = M.overL (M.shf (M.ent R) r1 r2) n 0 := ⟨_, rfl⟩
      have HOv : Hid (M.overL (M.ent (M.mk n n (M.shf (M.ent R) r1 r2))) n 0 = q') := by
        show _ = _
        rw [hq']; exact M.over_congr n2 HSh.out fun i j hi hj => M.ent_mk _ _ _ _ _ hi hj
      have HQ' := Lib.hid hq'
      clear hq'
      have HSq : ∀ wx b c, OwnM wx wb.heap.size (.slice b n c) (M.mk n n (M.shf (M.ent R) r1 r2)) → Sq wx b n (M.mk n n (M.shf (M.ent R) r1 r2)) := fun wx b c ho =>
        ⟨ho.mat, rect_mk _ _ _, fun i j hi hj => by rw [M.ent_mk _ _ _ _ _ hi hj]; exact HSh.out i j hi hj, n1, n2⟩
      have HSQ := Lib.hid HSq
      clear HSq
      go_wp2_with fail
      refine (sOver _ _ _ (M.mk n n (M.shf (M.ent R) r1 r2)) 0 _ (HSQ.out _ _ _ HO3.out)).mono ?_
      rintro e w4 ⟨b4, N4, c4, rfl, ho, hb⟩
      rw [HOv.out] at ho
      have HO4 := Lib.hid ho
      have HB4 := Lib.hid (HB3.out.trans (hb.mono HB3.out.size))
      obtain ⟨p0, p1⟩ := HX.out.cells HB4.out
      have hN4 := ho.len
      have HN4 := Lib.hid hN4
      clear ho hb
      by_cases h4 : N4 = 0
      · have hfi := M.fnd_is n2 HSm.out HQq.out.1 HQq.out.2.1 HQq.out.2.2.1 HQq.out.2.2.2 (by rw [← HR.out, ← HQ'.out, ← hN4, h4])
        have HNo : Hid (M.hasCyc (M.ent R) n = true) := hfi.1
        have HE : Hid (M.best2 R = M.overL (M.shf (M.ent R) r1 r2) n (-1)) := by
          show _ = _
          unfold M.best2
          rw [HRn.out, hfi.1, if_pos rfl]
          unfold M.bestCyc
          rw [HRn.out, ← hfi.2, ← HR.out]
        clear hfi hN4
        subst h4
        go_wp2_with fail
        refine (sShift _ _ _ R r1 r2 _ (HMt.out.below (HBx.out.trans (HB4.out.mono HBx.out.size))) HS.out.2.1 n1 n2 HSm.out HNe.out).mono ?_
        rintro e w5 ⟨b5, c5, rfl, ho, hb⟩
        have HO5 := Lib.hid ho
        have HB5 := Lib.hid (HB4.out.trans (hb.mono HB4.out.size))
        have HSQ5 : Hid (Sq w5 b5 n (M.mk n n (M.shf (M.ent R) r1 r2))) := HSQ.out _ _ _ (ho.mono HB4.out.size)
        clear ho hb
        go_wp2_with fail
        refine (sOver _ _ _ (M.mk n n (M.shf (M.ent R) r1 r2)) (-1) _ HSQ5.out).mono ?_
        rintro e w6 ⟨b6, N6, c6, rfl, ho, hb⟩
        rw [M.over_congr (A := M.shf (M.ent R) r1 r2) n2 HSh.out fun i j hi hj => M.ent_mk _ _ _ _ _ hi hj, ← HE.out] at ho
        have HB6 := Lib.hid (HBx.out.trans ((HB5.out.trans (hb.mono HB5.out.size)).mono HBx.out.size))
        have HO6 := Lib.hid (ho.mono (Nat.le_trans HBx.out.size HB5.out.size))
        clear ho hb
        go_wp2
        go_ret2
        exact ⟨b6, N6, c6, by rw [HNo.out]; rfl, HO6.out, HB6.out⟩
      · have hf : M.Fnd (M.shf (M.ent R) (M.cMean (M.ent R) q).1 (M.cMean (M.ent R) q).2) n 0 q' := by
          have hne : (M.overL (M.shf (M.ent R) r1 r2) n 0).length ≠ 0 := by rw [← HQ'.out]; omega
          have := M.over_fnd n2 HSh.out hne
          rw [← HQ'.out] at this
          rw [← HR.out]; exact this
        obtain ⟨g1, g2, g3, g4, g5, g6⟩ := M.fnd_up n2 HSm.out HQq.out.1 HQq.out.2.1 HQq.out.2.2.1 HQq.out.2.2.2 hf
        have HC' : Hid (M.Cyc0 (M.ent R) n q') := .inr ⟨g1, g2, g3, g5⟩
        have HL : Hid (M.mu (M.ent R) q' < M.mu (M.ent R) q) := M.mu_lt HQq.out.2.2.1 (Nat.le_trans HLen.out n2) g3 g4 (M.cMean_near HSm.out g3 g4 g1 g5).2.2.1 g6
        have HB6 := Lib.hid (HBx.out.trans (HB4.out.mono HBx.out.size))
        have HO6 := Lib.hid (HO4.out.mono (Nat.le_trans HBx.out.size HB3.out.size))
        have hN4p : 0 < N4 := by omega
        clear hf g1 g2 g3 g4 g5 g6 hN4
        go_wp2
        go_roundw
        case rel => exact ⟨b4, N4, c4, q', rfl, HO6, HC', HB6⟩
        case measure =>
          show M.mu _ (readL w4 (.slice b4 N4 c4)) < M.mu _ (readL wo (.slice b N c))
          rw [readL_own HO6.out, readL_own HO.out]; exact HL.out
end V
end Go.Proofs.YtmhpgnndjagogaaGreat

namespace Go.Proofs.YtmhpgnndjagogaaGreat
namespace V
open Go.RowKit
set_option maxRecDepth 100000 in
set_option maxHeartbeats 1000000 in
theorem sCycleMean (a : Option Addr) (n cap : Nat) (R : List (List Int)) (w : World) (h : Mat w a n R) :
    Calls Tryz.prog 54 #[.slice a n cap] w fun e w' => e = .returned (.tuple #[.agg #[.int .i64 (M.cycMeanRes R).1.1, .int .i64 (M.cycMeanRes R).1.2], .int .i64 (M.cycMeanRes R).2]) ∧ Below w.heap.size w w' := by
  have HA := Lib.hid h
  have HRn := Lib.hid h.1
  by_cases hs : M.sqB R = true
  · have HS := Lib.hid hs
    have HB0 : ∀ qd, Below (w.alloc (.cells #[.int .i64 0, .int .i64 0] 27)).heap.size (w.alloc (.cells #[.int .i64 0, .int .i64 0] 27)) ((w.alloc (.cells #[.int .i64 0, .int .i64 0] 27)).drewN qd) := fun qd => b_draws _ _
    have HB0 := Lib.hid HB0
    have HA0 : Hid (∀ qd, Mat ((w.alloc (.cells #[.int .i64 0, .int .i64 0] 27)).drewN qd) a n R) := fun qd => HA.out.below ((b_alloc _ _).trans ((HB0.out qd).mono (by simp)))
    by_cases hc : M.hasCyc (M.ent R) n = true
    · have hb := M.best_cyc hs (by rw [h.1]; exact hc)
      have HC : Hid (M.mean2 R (M.best2 R) = (M.bestR (M.ent R) n, true)) := by
        show _ = _
        unfold M.best2
        rw [HRn.out, hc, if_pos rfl]
        unfold M.mean2
        rw [if_pos hb.1, hb.2.1, HRn.out]
      have HNo := Lib.hid hc
      obtain ⟨x, hx⟩ : ∃ x, x = M.bestR (M.ent R) n := ⟨_, rfl⟩
      have HE : Hid (M.cycMeanRes R = M.lim x) := by show _ = _; unfold M.cycMeanRes; rw [if_pos hs, HRn.out, if_pos hc, hx]
      rw [← hx] at HC
      clear h hs hc hb hx
      obtain ⟨x1, x2⟩ := x
      go_enter Tryz.func54, Tryz.ntmps54
      go_wp2_with fail
      refine (sSquare_b _ _ _ R _ true HS.out (HA.out.below (b_alloc _ _))).mono ?_
      rintro e w' ⟨rfl, qd, rfl⟩
      go_wp2_with fail
      refine (sBest _ _ _ R _ (HA0.out qd) HS.out).mono ?_
      rintro e w0 ⟨b', n', c', rfl, ho, hb0⟩
      rw [HNo.out]
      have HO := Lib.hid ho
      have HBb := Lib.hid ((HB0.out qd).trans (hb0.mono (HB0.out qd).size))
      have HM0 : Hid (Mat w0 a n R) := (HA0.out qd).below hb0
      have HCp := Lib.hid (own_caps ho)
      clear ho hb0
      go_wp2_with fail
      refine (sMean _ _ _ R _ _ _ (M.best2 R) _ HM0.out HS.out HO.out.ints' HCp.out.1 HCp.out.2).mono ?_
      rintro e w1 ⟨rfl, hb⟩
      rw [HC.out]
      have hb1 := HBb.out.trans (hb.mono HBb.out.size)
      have hz := hb1.size
      simp at hz
      obtain ⟨hcc, hff⟩ := bcell hb1
      have z1 : w.heap.size < w1.heap.size := by omega
      clear hb
      go_wp2_with fail
      refine (sResultR _ _ _).mono ?_
      rintro e w2 ⟨rfl, hb2⟩
      obtain ⟨r, hr⟩ : ∃ r, r = M.lim (x1, x2) := ⟨_, rfl⟩
      rw [← hr] at HE ⊢
      clear hr
      unfold retQ
      obtain ⟨⟨r1, r2⟩, r3⟩ := r
      have hbb := hb1.trans (((b_alloc w1 _).trans (hb2.mono (by simp))).mono hb1.size)
      have hz2 := hbb.size
      simp at hz2
      obtain ⟨hc2, hf2⟩ := bcell hbb
      have z2 : w.heap.size < w2.heap.size := by omega
      go_wp2
      exact bodyPost_ret (v := .tuple #[.agg #[.int .i64 r1, .int .i64 r2], .int .i64 r3]) (by simp [results, Tryz.results54, go_sem, z2, hc2]) rfl ⟨by rw [HE.out], bel1s hbb⟩
    · simp only [Bool.not_eq_true] at hc
      have HNo := Lib.hid hc
      have HE : Hid (M.cycMeanRes R = ((0, 0), 4)) := by show _ = _; unfold M.cycMeanRes; rw [if_pos hs, HRn.out, if_neg (by rw [hc]; exact Bool.false_ne_true)]
      clear h hs hc
      go_enter Tryz.func54, Tryz.ntmps54
      go_wp2_with fail
      refine (sSquare_b _ _ _ R _ true HS.out (HA.out.below (b_alloc _ _))).mono ?_
      rintro e w' ⟨rfl, qd, rfl⟩
      go_wp2_with fail
      refine (sBest _ _ _ R _ (HA0.out qd) HS.out).mono ?_
      rintro e w1 ⟨b', n', c', rfl, ho, hb0⟩
      rw [HNo.out]
      have hb1 := (HB0.out qd).trans (hb0.mono (HB0.out qd).size)
      have hz := hb1.size
      simp at hz
      obtain ⟨hcc, hff⟩ := bcell hb1
      have z1 : w.heap.size < w1.heap.size := by omega
      clear ho hb0
      go_wp2
      exact bodyPost_ret (v := .tuple #[.agg #[.int .i64 0, .int .i64 0], .int .i64 4]) (by simp [results, Tryz.results54, go_sem, z1, hcc]) rfl ⟨by rw [HE.out], bel1s hb1⟩
  · simp only [Bool.not_eq_true] at hs
    have HS := Lib.hid hs
    have HE : Hid (M.cycMeanRes R = ((0, 0), 1)) := by show _ = _; unfold M.cycMeanRes; rw [if_neg (by rw [hs]; exact Bool.false_ne_true)]
    clear h hs
    go_enter Tryz.func54, Tryz.ntmps54
    go_wp2_with fail
    refine (sSquare_b _ _ _ R _ false HS.out (HA.out.below (b_alloc _ _))).mono ?_
    rintro e w' ⟨rfl, qd, rfl⟩
    go_wp2
    exact bodyPost_ret (v := .tuple #[.agg #[.int .i64 0, .int .i64 0], .int .i64 1]) (by simp [results, Tryz.results54, go_sem]) rfl ⟨by rw [HE.out], bel1s (b_draws _ _)⟩
set_option maxRecDepth 100000 in
set_option maxHeartbeats 1000000 in
theorem sBestCycle (a : Option Addr) (n cap : Nat) (R : List (List Int)) (w : World) (h : Mat w a n R) :
    Calls Tryz.prog 18 #[.slice a n cap] w (VRes (M.bestRes R) w) := by
  have HA := Lib.hid h
  have HRn := Lib.hid h.1
  by_cases hs : M.sqB R = true
  · have HS := Lib.hid hs
    obtain ⟨c, hc⟩ : ∃ c, c = M.hasCyc (M.ent R) n := ⟨_, rfl⟩
    have HNo := Lib.hid hc.symm
    have HE : Hid (M.bestRes R = if c then (M.best2 R, 0) else ([], 4)) := by
      show _ = _; unfold M.bestRes M.best2; rw [if_pos hs, HRn.out, ← hc]; cases c <;> rfl
    clear h hs hc
    go_enter Tryz.func18, Tryz.ntmps18
    go_wp2_with fail
    refine (sSquare_b _ _ _ R _ true HS.out HA.out).mono ?_
    rintro e w' ⟨rfl, qd, rfl⟩
    go_wp2_with fail
    refine (sBest _ _ _ R _ (HA.out.below (b_draws _ _)) HS.out).mono ?_
    rintro e w1 ⟨b', n', c', rfl, ho, hb0⟩
    rw [HNo.out]
    have HO := Lib.hid ho
    have HB := Lib.hid ((b_draws w qd).trans hb0)
    clear ho hb0
    cases c with
    | false =>
      go_wp2
      go_ret2
      exact VRes.nil HE.out HB.out
    | true =>
      go_wp2
      go_ret2
      rw [HE.out]
      exact ⟨_, _, _, rfl, HO.out, HB.out⟩
  · simp only [Bool.not_eq_true] at hs
    have HS := Lib.hid hs
    have HE : Hid (M.bestRes R = ([], 1)) := by show _ = _; unfold M.bestRes; rw [if_neg (by rw [hs]; exact Bool.false_ne_true)]
    clear h hs
    go_enter Tryz.func18, Tryz.ntmps18
    go_wp2_with fail
    refine (sSquare_b _ _ _ R _ false HS.out HA.out).mono ?_
    rintro e w' ⟨rfl, qd, rfl⟩
    go_wp2
    go_ret2
    exact VRes.nil HE.out (b_draws _ _)
end V
end Go.Proofs.YtmhpgnndjagogaaGreat

namespace Go.Proofs.YtmhpgnndjagogaaGreat
namespace M
/-- The node v reaches i. -/
def Rch (A : Nat → Nat → Int) (n v i : Nat) : Prop :=
  ∃ (t : Nat) (x : Nat → Nat), x 0 = v ∧ x t = i ∧ (∀ u, u ≤ t → x u < n) ∧ ∀ u, u < t → A (x (u + 1)) (x u) ≠ -1000000000000000
/-- By at most r arcs. -/
def RcN (A : Nat → Nat → Int) (n v r i : Nat) : Prop :=
  ∃ (t : Nat) (x : Nat → Nat), t ≤ r ∧ x 0 = v ∧ x t = i ∧ (∀ u, u ≤ t → x u < n) ∧ ∀ u, u < t → A (x (u + 1)) (x u) ≠ -1000000000000000
variable {A : Nat → Nat → Int} {n : Nat}
theorem Rch.of {v r i : Nat} (h : RcN A n v r i) : Rch A n v i := by
  obtain ⟨t, x, -, h⟩ := h
  exact ⟨t, x, h⟩
theorem rch_self {v : Nat} (hv : v < n) : Rch A n v v := ⟨0, fun _ => v, rfl, rfl, fun _ _ => hv, fun u hu => absurd hu (Nat.not_lt_zero u)⟩
theorem rcn_self {v : Nat} (hv : v < n) (r : Nat) : RcN A n v r v := ⟨0, fun _ => v, Nat.zero_le _, rfl, rfl, fun _ _ => hv, fun u hu => absurd hu (Nat.not_lt_zero u)⟩
theorem Rch.lt {v i : Nat} (h : Rch A n v i) : v < n ∧ i < n := by
  obtain ⟨t, x, h1, h2, h3, -⟩ := h
  exact ⟨by rw [← h1]; exact h3 0 (Nat.zero_le _), by rw [← h2]; exact h3 t (Nat.le_refl _)⟩
theorem rcn_step {v r k i : Nat} (h : RcN A n v r k) (hi : i < n) (ha : A i k ≠ -1000000000000000) : RcN A n v (r + 1) i := by
  obtain ⟨t, x, h0, h1, h2, h3, h4⟩ := h
  refine ⟨t + 1, fun u => if u ≤ t then x u else i, by omega, ?_, ?_, ?_, ?_⟩
  · show (if 0 ≤ t then x 0 else i) = v
    rw [if_pos (Nat.zero_le _), h1]
  · show (if t + 1 ≤ t then _ else i) = i
    rw [if_neg (by omega)]
  · intro u hu
    show (if u ≤ t then x u else i) < n
    split
    · next h => exact h3 u h
    · exact hi
  · intro u hu
    show A (if u + 1 ≤ t then x (u + 1) else i) (if u ≤ t then x u else i) ≠ _
    by_cases e : u = t
    · subst e
      rw [if_neg (by omega), if_pos (Nat.le_refl _), h2]; exact ha
    · rw [if_pos (by omega), if_pos (by omega)]; exact h4 u (by omega)
theorem rcn_mono {v r r' i : Nat} (h : RcN A n v r i) (hr : r ≤ r') : RcN A n v r' i := by
  obtain ⟨t, x, h0, h⟩ := h
  exact ⟨t, x, by omega, h⟩
theorem rch_rcn {v i : Nat} (h : Rch A n v i) : ∃ r, RcN A n v r i := by
  obtain ⟨t, x, h⟩ := h
  exact ⟨t, t, x, Nat.le_refl _, h⟩
theorem rch_step {v k i : Nat} (h : Rch A n v k) (hi : i < n) (ha : A i k ≠ -1000000000000000) : Rch A n v i := by
  obtain ⟨r, h⟩ := rch_rcn h
  exact Rch.of (rcn_step h hi ha)
theorem rcn_next {v r i : Nat} (h : RcN A n v (r + 1) i) : RcN A n v r i ∨ ∃ k, k < n ∧ RcN A n v r k ∧ i < n ∧ A i k ≠ -1000000000000000 := by
  obtain ⟨t, x, h0, h1, h2, h3, h4⟩ := h
  by_cases e : t ≤ r
  · exact .inl ⟨t, x, e, h1, h2, h3, h4⟩
  · obtain rfl : t = r + 1 := by omega
    refine .inr ⟨x r, h3 r (by omega), ⟨r, x, Nat.le_refl _, h1, rfl, fun u hu => h3 u (by omega), fun u hu => h4 u (by omega)⟩, by rw [← h2]; exact h3 _ (Nat.le_refl _), ?_⟩
    rw [← h2]; exact h4 r (by omega)
theorem rcn_zero {v i : Nat} (h : RcN A n v 0 i) : i = v := by
  obtain ⟨t, x, h0, h1, h2, -⟩ := h
  obtain rfl : t = 0 := by omega
  rw [← h1, ← h2]
/-- What holds at the start and is handed on along arcs holds at all nodes that are reached. -/
theorem Rch.ind {P : Nat → Prop} {v i : Nat} (h : Rch A n v i) (h0 : v < n → P v) (hs : ∀ k i, Rch A n v k → P k → i < n → A i k ≠ -1000000000000000 → P i) : P i := by
  obtain ⟨t, x, h1, h2, h3, h4⟩ := h
  have : ∀ u, u ≤ t → P (x u) := by
    intro u
    induction u with
    | zero => intro _; rw [h1]; exact h0 (by rw [← h1]; exact h3 0 (Nat.zero_le _))
    | succ u ih =>
      intro hu
      exact hs (x u) _ ⟨u, x, h1, rfl, fun w hw => h3 w (by omega), fun w hw => h4 w (by omega)⟩ (ih (by omega)) (h3 _ hu) (h4 u (by omega))
  rw [← h2]; exact this t (Nat.le_refl _)
theorem rch_trans {v k i : Nat} (h : Rch A n v k) (h' : Rch A n k i) : Rch A n v i :=
  h'.ind (P := fun i => Rch A n v i) (fun _ => h) fun _ _ _ ih hi ha => rch_step ih hi ha
/-- A walk need not be longer than there are nodes. -/
theorem rch_short {v i : Nat} (h : Rch A n v i) : RcN A n v n i := by
  obtain ⟨t, h⟩ : ∃ t, ∃ x : Nat → Nat, x 0 = v ∧ x t = i ∧ (∀ u, u ≤ t → x u < n) ∧ ∀ u, u < t → A (x (u + 1)) (x u) ≠ -1000000000000000 := h
  induction t using Nat.strongRecOn with
  | _ t ih =>
    obtain ⟨x, h1, h2, h3, h4⟩ := h
    by_cases e : t ≤ n
    · exact ⟨t, x, e, h1, h2, h3, h4⟩
    · obtain ⟨a, b, hab, hb, he⟩ := pigeon n x (fun u hu => h3 u (by omega))
      refine ih (t - (b - a)) (by omega) ⟨fun u => if u < a then x u else x (u + (b - a)), ?_, ?_, ?_, ?_⟩
      · show (if 0 < a then x 0 else x (0 + (b - a))) = v
        split
        · exact h1
        · obtain rfl : a = 0 := by omega
          rw [Nat.zero_add, Nat.sub_zero, ← he, h1]
      · show (if t - (b - a) < a then _ else x (t - (b - a) + (b - a))) = i
        rw [if_neg (by omega), show t - (b - a) + (b - a) = t by omega, h2]
      · intro u hu
        show (if u < a then x u else x (u + (b - a))) < n
        split
        · exact h3 u (by omega)
        · exact h3 _ (by omega)
      · intro u hu
        show A (if u + 1 < a then x (u + 1) else x (u + 1 + (b - a))) (if u < a then x u else x (u + (b - a))) ≠ _
        by_cases e1 : u + 1 < a
        · rw [if_pos e1, if_pos (by omega)]; exact h4 u (by omega)
        · by_cases e2 : u < a
          · rw [if_neg e1, if_pos e2, show u + 1 + (b - a) = b by omega, ← he, show a = u + 1 by omega]
            exact h4 u (by omega)
          · rw [if_neg e1, if_neg e2, show u + 1 + (b - a) = u + (b - a) + 1 by omega]
            exact h4 _ (by omega)
/-- Turned arcs turn what reaches what. -/
theorem rch_turn {B : Nat → Nat → Int} (hB : ∀ i j, i < n → j < n → B i j = A j i) {v i : Nat} (h : Rch B n v i) : Rch A n i v := by
  obtain ⟨t, x, h1, h2, h3, h4⟩ := h
  refine ⟨t, fun u => x (t - u), by show x (t - 0) = i; rw [Nat.sub_zero, h2], by show x (t - t) = v; rw [Nat.sub_self, h1], fun u _ => h3 _ (by omega), fun u hu => ?_⟩
  show A (x (t - (u + 1))) (x (t - u)) ≠ _
  have := h4 (t - (u + 1)) (by omega)
  rw [hB _ _ (h3 _ (by omega)) (h3 _ (by omega)), show t - (u + 1) + 1 = t - u by omega] at this
  exact this
theorem rch_congr {B : Nat → Nat → Int} (hB : ∀ i j, i < n → j < n → B i j = A i j) {v i : Nat} (h : Rch B n v i) : Rch A n v i := by
  obtain ⟨t, x, h1, h2, h3, h4⟩ := h
  refine ⟨t, x, h1, h2, h3, fun u hu => ?_⟩
  rw [← hB _ _ (h3 _ (by omega)) (h3 _ (by omega))]; exact h4 u hu
/-- The same, as a test. -/
def rsB (A : Nat → Nat → Int) (n v : Nat) : Nat → Nat → Bool
  | 0, i => decide (i = v) && decide (v < n)
  | r + 1, i => rsB A n v r i || (decide (i < n) && (List.range n).any fun k => rsB A n v r k && decide (A i k ≠ -1000000000000000))
theorem rsB_t {v : Nat} (r : Nat) : ∀ i, rsB A n v r i = true ↔ RcN A n v r i := by
  induction r with
  | zero =>
    intro i
    show (decide (i = v) && decide (v < n)) = true ↔ _
    rw [Bool.and_eq_true, decide_eq_true_eq, decide_eq_true_eq]
    exact ⟨fun ⟨e, hv⟩ => by subst e; exact rcn_self hv 0, fun h => ⟨rcn_zero h, (Rch.of h).lt.1⟩⟩
  | succ r ih =>
    intro i
    show (rsB A n v r i || (decide (i < n) && (List.range n).any fun k => rsB A n v r k && decide (A i k ≠ -1000000000000000))) = true ↔ _
    rw [Bool.or_eq_true, Bool.and_eq_true, decide_eq_true_eq, List.any_eq_true, ih]
    constructor
    · rintro (h | ⟨hi, k, -, hk⟩)
      · exact rcn_mono h (Nat.le_succ r)
      · rw [Bool.and_eq_true, decide_eq_true_eq, ih] at hk
        exact rcn_step hk.1 hi hk.2
    · intro h
      rcases rcn_next h with h | ⟨k, hk, h1, h2, h3⟩
      · exact .inl h
      · exact .inr ⟨h2, k, List.mem_range.2 hk, by rw [Bool.and_eq_true, decide_eq_true_eq, ih]; exact ⟨h1, h3⟩⟩
def rchB (A : Nat → Nat → Int) (n v i : Nat) : Bool := rsB A n v n i
theorem rchB_t {v i : Nat} : rchB A n v i = true ↔ Rch A n v i := (rsB_t n i).trans ⟨Rch.of, rch_short⟩
theorem rchB_eq {v i : Nat} {b : Bool} (h : b = true ↔ Rch A n v i) : rchB A n v i = b := by
  rw [Bool.eq_iff_iff, rchB_t, h]
theorem rchB_turn {B : Nat → Nat → Int} (hB : ∀ i j, i < n → j < n → B i j = A j i) (v i : Nat) : rchB B n v i = rchB A n i v :=
  rchB_eq (by rw [rchB_t]; exact ⟨fun h => rch_turn (A := B) (B := A) (fun i j hi hj => (hB j i hj hi).symm) h, fun h => rch_turn hB h⟩)
theorem rchB_congr {B : Nat → Nat → Int} (hB : ∀ i j, i < n → j < n → B i j = A i j) (v i : Nat) : rchB B n v i = rchB A n v i :=
  rchB_eq (by rw [rchB_t]; exact ⟨fun h => rch_congr (fun i j hi hj => (hB i j hi hj).symm) h, fun h => rch_congr hB h⟩)
/-- A set that holds the start, only what is reached, and all that an arc leads to from it, is what is reached. -/
theorem rch_set {v : Nat} {S : Nat → Bool} (hv : v < n) (h0 : S v = true) (hS : ∀ i, S i = true → Rch A n v i) (hc : ∀ k i, k < n → S k = true → i < n → A i k ≠ -1000000000000000 → S i = true) (i : Nat) : S i = rchB A n v i :=
  (rchB_eq ⟨fun h => hS i h, fun h => h.ind (P := fun i => S i = true) (fun _ => h0) fun k i hk ih hi ha => hc k i hk.lt.2 ih hi ha⟩).symm
/-- The rounds of the model's search: what n rounds have found. -/
theorem rch_rounds {v : Nat} {S : Nat → Bool} (hS : ∀ i, S i = true → Rch A n v i) (hr : ∀ i, RcN A n v n i → S i = true) (i : Nat) : S i = rchB A n v i :=
  (rchB_eq ⟨fun h => hS i h, fun h => hr i (rch_short h)⟩).symm

/-! Matrices without some arcs. -/
theorem owk_sub {A' : Nat → Nat → Int} (h : ∀ i j, i < n → j < n → A' i j = A i j ∨ A' i j = -1000000000000000) {v : Nat → Nat} {s : Nat} (hv : ∀ u, u ≤ s → v u < n) {w : Int} (hw : owk (fun i j => o (A' i j)) v s = some w) : owk (fun i j => o (A i j)) v s = some w := by
  induction s generalizing w with
  | zero => exact hw
  | succ s ih =>
    have hw : omul (o (A' (v (s + 1)) (v s))) (owk (fun i j => o (A' i j)) v s) = some w := hw
    show omul (o (A (v (s + 1)) (v s))) (owk (fun i j => o (A i j)) v s) = some w
    cases e : owk (fun i j => o (A' i j)) v s with
    | none => rw [e, omul_none] at hw; cases hw
    | some x =>
      rw [e] at hw
      rw [ih (fun u hu => hv u (by omega)) e]
      rcases h (v (s + 1)) (v s) (hv _ (Nat.le_refl _)) (hv _ (by omega)) with q | q
      · rw [← q]; exact hw
      · rw [q, o_bot, none_omul] at hw; cases hw
theorem owk_keep {A' : Nat → Nat → Int} {v : Nat → Nat} {s : Nat} (h : ∀ u, u < s → A' (v (u + 1)) (v u) = A (v (u + 1)) (v u)) : owk (fun i j => o (A' i j)) v s = owk (fun i j => o (A i j)) v s := by
  induction s with
  | zero => rfl
  | succ s ih =>
    show omul (o (A' _ _)) (owk _ v s) = omul (o (A _ _)) (owk _ v s)
    rw [ih fun u hu => h u (by omega), h s (by omega)]
section
variable {A' : Nat → Nat → Int} (hn : n ≤ 10) (hA : ∀ i j, i < n → j < n → Sm 1000000 (A i j)) (hsub : ∀ i j, i < n → j < n → A' i j = A i j ∨ A' i j = -1000000000000000)
include hn hA hsub
omit hn in
theorem sub_sm : ∀ i j, i < n → j < n → Sm 1000000 (A' i j) := fun i j hi hj => by
  rcases hsub i j hi hj with q | q
  · rw [q]; exact hA i j hi hj
  · rw [q]; exact .inl rfl
theorem sub_cyc (h : hasCyc A' n = true) : hasCyc A n = true := by
  obtain ⟨v, s, h1, h2, h3, h4⟩ := cyc_closed hn (sub_sm hA hsub) h
  cases e : owk (fun i j => o (A' i j)) v s with
  | none => exact absurd e h4
  | some w => exact closed_cyc hn hA ⟨h1, h2, h3, by rw [owk_sub hsub h3 e]; simp⟩
/-- Fewer arcs: no greater mean. -/
theorem sub_le (h : hasCyc A' n = true) : (bestR A' n).1 * (bestR A n).2 ≤ (bestR A n).1 * (bestR A' n).2 := by
  obtain ⟨⟨b1, b2, b3, -⟩, -⟩ := bestR_best hn hA (sub_cyc hn hA hsub h)
  obtain ⟨⟨c1, c2, -, v, s, w, c4, c5, c6, c7, c8, c9⟩, -⟩ := bestR_best hn (sub_sm hA hsub) h
  exact cross_le (show (0 : Int) < s by omega) (b3 v s w c6 c7 (owk_sub hsub c7 c8)) c9 (by omega) (by omega)
/-- A cycle of the greatest mean that is left keeps the greatest mean. -/
theorem sub_same {v : Nat → Nat} {s : Nat} {w : Int} (h1 : 1 ≤ s) (h2 : v s = v 0) (h3 : ∀ u, u ≤ s → v u < n) (h4 : owk (fun i j => o (A i j)) v s = some w) (h5 : (bestR A n).2 * w = s * (bestR A n).1)
    (hk : ∀ u, u < s → A' (v (u + 1)) (v u) = A (v (u + 1)) (v u)) : hasCyc A' n = true ∧ bestR A' n = bestR A n := by
  have h4' := h4
  rw [← owk_keep hk] at h4'
  have hc : hasCyc A' n = true := closed_cyc hn (sub_sm hA hsub) ⟨h1, h2, h3, by rw [h4']; simp⟩
  refine ⟨hc, ?_⟩
  have hle := sub_le hn hA hsub hc
  obtain ⟨⟨b1, b2, b3, -⟩, -⟩ := bestR_best hn hA (sub_cyc hn hA hsub hc)
  obtain ⟨⟨c1, c2, c3, -⟩, -⟩ := bestR_best hn (sub_sm hA hsub) hc
  have hge := cross_le (show (0 : Int) < s by omega) (c3 v s w h2 h3 h4') h5 (by omega) (by omega)
  obtain ⟨e1, e2⟩ := lowest_eq c1 b1 c2 b2 (by omega)
  exact Prod.ext e1 e2
/-- All cycles are left. -/
theorem sub_all (hall : ∀ v s, Closed A n v s → ∀ u, u < s → A' (v (u + 1)) (v u) = A (v (u + 1)) (v u)) : hasCyc A' n = hasCyc A n ∧ (hasCyc A n = true → bestR A' n = bestR A n) := by
  cases hc : hasCyc A n with
  | false =>
    refine ⟨?_, fun h => by cases h⟩
    cases h : hasCyc A' n with
    | false => rfl
    | true => rw [sub_cyc hn hA hsub h] at hc; cases hc
  | true =>
    obtain ⟨⟨b1, b2, b3, v, s, w, c4, c5, c6, c7, c8, c9⟩, -⟩ := bestR_best hn hA hc
    obtain ⟨e1, e2⟩ := sub_same hn hA hsub c4 c6 c7 c8 c9 (hall v s ⟨c4, c6, c7, by rw [c8]; simp⟩)
    exact ⟨e1, fun _ => e2⟩
end
end M
end Go.Proofs.YtmhpgnndjagogaaGreat

namespace Go.Proofs.YtmhpgnndjagogaaGreat
namespace M
variable {A : Nat → Nat → Int} {n : Nat}
def relB (A : Nat → Nat → Int) (n v w : Nat) : Bool := rchB A n v w && rchB A n w v
theorem relB_t {v w : Nat} : relB A n v w = true ↔ Rch A n v w ∧ Rch A n w v := by
  unfold relB
  rw [Bool.and_eq_true, rchB_t, rchB_t]
theorem relB_self {v : Nat} (h : v < n) : relB A n v v = true := relB_t.2 ⟨rch_self h, rch_self h⟩
theorem relB_symm (v w : Nat) : relB A n v w = relB A n w v := by unfold relB; rw [Bool.and_comm]
theorem relB_eq {v w : Nat} (h : relB A n v w = true) (u : Nat) : relB A n v u = relB A n w u := by
  obtain ⟨h1, h2⟩ := relB_t.1 h
  rw [Bool.eq_iff_iff, relB_t, relB_t]
  exact ⟨fun ⟨k1, k2⟩ => ⟨rch_trans h2 k1, rch_trans k2 h1⟩, fun ⟨k1, k2⟩ => ⟨rch_trans h1 k1, rch_trans k2 h2⟩⟩
/-- The component of v among the first k nodes. -/
def compP (A : Nat → Nat → Int) (n v k : Nat) : List Int := ((List.range k).filter (relB A n v)).map fun i : Nat => (i : Int)
def compL (A : Nat → Nat → Int) (n v : Nat) : List Int := compP A n v n
theorem compP_next (A : Nat → Nat → Int) (n v k : Nat) : compP A n v (k + 1) = compP A n v k ++ (if relB A n v k then [(k : Int)] else []) := by
  unfold compP
  rw [List.range_succ, List.filter_append, List.map_append]
  congr 1
  cases h : relB A n v k <;> simp [h]
theorem compP_len (A : Nat → Nat → Int) (n v k : Nat) : (compP A n v k).length ≤ k := by
  unfold compP
  rw [List.length_map]
  have := List.length_filter_le (relB A n v) (List.range k)
  rw [List.length_range] at this
  exact this
theorem mem_compP {v k : Nat} {x : Int} : x ∈ compP A n v k ↔ ∃ w : Nat, w < k ∧ relB A n v w = true ∧ x = w := by
  unfold compP
  simp only [List.mem_map, List.mem_filter, List.mem_range]
  exact ⟨fun ⟨w, ⟨h1, h2⟩, h3⟩ => ⟨w, h1, h2, h3.symm⟩, fun ⟨w, h1, h2, h3⟩ => ⟨w, ⟨h1, h2⟩, h3.symm⟩⟩
theorem compL_eq {v w : Nat} (h : relB A n v w = true) : compL A n v = compL A n w := by
  unfold compL compP
  congr 1
  exact List.filter_congr fun u _ => relB_eq h u
theorem compL_pos {v : Nat} (h : v < n) : 1 ≤ (compL A n v).length := List.length_pos_of_mem (mem_compP.2 ⟨v, h, relB_self h, rfl⟩)
theorem compL_at {v k : Nat} (h : k < (compL A n v).length) : ∃ w : Nat, w < n ∧ relB A n v w = true ∧ (compL A n v).getD k 0 = w := by
  have hm : (compL A n v).getD k 0 ∈ compL A n v := by
    rw [List.getD_eq_getElem?_getD, List.getElem?_eq_getElem h]; exact List.getElem_mem h
  exact mem_compP.1 hm
/-- The first node of the component. -/
def repN (A : Nat → Nat → Int) (n v : Nat) : Nat := ((compL A n v).getD 0 0).toNat
theorem rep_t {v : Nat} (h : v < n) : repN A n v < n ∧ relB A n v (repN A n v) = true ∧ (compL A n v).getD 0 0 = (repN A n v : Int) := by
  obtain ⟨w, h1, h2, h3⟩ := compL_at (A := A) (k := 0) (compL_pos h)
  unfold repN
  rw [h3]
  exact ⟨h1, h2, rfl⟩
theorem rep_eq {v w : Nat} (h : relB A n v w = true) : repN A n v = repN A n w := by unfold repN; rw [compL_eq h]
def compsP (A : Nat → Nat → Int) (n m : Nat) : List (List Int) := (List.range m).flatMap fun v => if repN A n v = v then [compL A n v] else []
def compsL (A : Nat → Nat → Int) (n : Nat) : List (List Int) := compsP A n n
theorem compsP_next (A : Nat → Nat → Int) (n m : Nat) : compsP A n (m + 1) = compsP A n m ++ (if repN A n m = m then [compL A n m] else []) := by
  unfold compsP
  rw [List.range_succ, List.flatMap_append]
  simp
theorem compsP_len (A : Nat → Nat → Int) (n m : Nat) : (compsP A n m).length ≤ m := by
  induction m with
  | zero => exact Nat.le_refl _
  | succ m ih => rw [compsP_next, List.length_append]; split <;> simp <;> omega
theorem mem_compsP {m : Nat} {l : List Int} : l ∈ compsP A n m ↔ ∃ v, v < m ∧ repN A n v = v ∧ l = compL A n v := by
  unfold compsP
  simp only [List.mem_flatMap, List.mem_range]
  constructor
  · rintro ⟨v, hv, h⟩
    split at h
    · next e => exact ⟨v, hv, e, by simpa using h⟩
    · simp at h
  · rintro ⟨v, hv, e, h⟩
    exact ⟨v, hv, by rw [if_pos e]; simp [h]⟩
def sumLen (L : List (List Int)) : Nat := L.foldr (fun l s => l.length + s) 0
theorem sumLen_app (L K : List (List Int)) : sumLen (L ++ K) = sumLen L + sumLen K := by
  induction L with
  | nil => simp [sumLen]
  | cons l L ih =>
    show l.length + sumLen (L ++ K) = l.length + sumLen L + sumLen K
    rw [ih]; omega
/-- How many of the first k nodes pass a test. -/
def cnt (p : Nat → Bool) (k : Nat) : Nat := ((List.range k).filter p).length
theorem cnt_next (p : Nat → Bool) (k : Nat) : cnt p (k + 1) = cnt p k + (if p k then 1 else 0) := by
  unfold cnt
  rw [List.range_succ, List.filter_append, List.length_append]
  cases h : p k <;> simp [h]
theorem cnt_congr {p q : Nat → Bool} {k : Nat} (h : ∀ i, i < k → p i = q i) : cnt p k = cnt q k := by
  unfold cnt
  rw [List.filter_congr fun i hi => h i (List.mem_range.1 hi)]
theorem cnt_or {p q r : Nat → Bool} {k : Nat} (h : ∀ i, i < k → r i = (p i || q i)) (hd : ∀ i, i < k → p i = true → q i = false) : cnt r k = cnt p k + cnt q k := by
  induction k with
  | zero => rfl
  | succ k ih =>
    rw [cnt_next, cnt_next, cnt_next, ih (fun i hi => h i (by omega)) (fun i hi => hd i (by omega)), h k (by omega)]
    have := hd k (by omega)
    cases e1 : p k <;> cases e2 : q k <;> simp_all <;> omega
theorem cnt_all (k : Nat) : cnt (fun _ => true) k = k := by
  unfold cnt
  rw [List.filter_eq_self.2 fun _ _ => rfl, List.length_range]
theorem cnt_none {p : Nat → Bool} {k : Nat} (h : ∀ i, i < k → p i = false) : cnt p k = 0 := by
  unfold cnt
  rw [List.filter_eq_nil_iff.2 fun i hi => by rw [h i (List.mem_range.1 hi)]; exact Bool.false_ne_true]
  rfl
theorem sum_comps (m : Nat) (hm : m ≤ n) : sumLen (compsP A n m) = cnt (fun w => decide (repN A n w < m)) n := by
  induction m with
  | zero =>
    rw [cnt_none fun i _ => decide_eq_false (Nat.not_lt_zero _)]
    rfl
  | succ m ih =>
    rw [compsP_next, sumLen_app, ih (by omega), cnt_or (p := fun w => decide (repN A n w < m)) (q := fun w => decide (repN A n w = m)) (r := fun w => decide (repN A n w < m + 1)) (fun i _ => by
      rw [Bool.eq_iff_iff, Bool.or_eq_true, decide_eq_true_eq, decide_eq_true_eq, decide_eq_true_eq]; omega) (fun i _ h => by rw [decide_eq_true_eq] at h; rw [decide_eq_false_iff_not]; omega)]
    congr 1
    by_cases e : repN A n m = m
    · rw [if_pos e]
      show (compL A n m).length + 0 = _
      unfold compL compP
      rw [List.length_map]
      show cnt (relB A n m) n + 0 = _
      rw [Nat.add_zero]
      refine cnt_congr fun w hw => ?_
      rw [Bool.eq_iff_iff, decide_eq_true_eq]
      constructor
      · intro h; rw [← rep_eq h, e]
      · intro h
        have := (rep_t (A := A) hw).2.1
        rw [h, relB_symm] at this; exact this
    · rw [if_neg e]
      refine (cnt_none fun w hw => ?_).symm
      rw [decide_eq_false_iff_not]
      intro h
      apply e
      have := (rep_t (A := A) hw).2.1
      rw [h] at this
      rw [← rep_eq this, h]
/-- The components divide the nodes. -/
theorem sum_compsL : sumLen (compsL A n) = n := by
  unfold compsL
  rw [sum_comps n (Nat.le_refl _), cnt_congr (q := fun _ => true) fun w hw => by simpa using (rep_t (A := A) hw).1, cnt_all]
theorem compsL_first (h : 1 ≤ n) : ∃ L, compsL A n = compL A n 0 :: L ∧ ∀ l, l ∈ L → 1 ≤ l.length := by
  obtain ⟨m, rfl⟩ : ∃ m, n = m + 1 := ⟨n - 1, by omega⟩
  have h0 : repN A (m + 1) 0 = 0 := by
    have hm : (0 : Int) ∈ compL A (m + 1) 0 := mem_compP.2 ⟨0, by omega, relB_self (by omega), rfl⟩
    unfold repN compL compP
    rw [List.range_succ_eq_map, List.filter_cons, if_pos (relB_self (by omega))]
    rfl
  have e : compsL A (m + 1) = compL A (m + 1) 0 :: (List.map Nat.succ (List.range m)).flatMap fun v => if repN A (m + 1) v = v then [compL A (m + 1) v] else [] := by
    unfold compsL compsP
    rw [List.range_succ_eq_map, List.flatMap_cons, if_pos h0]
    rfl
  refine ⟨_, e, fun l hl => ?_⟩
  have : l ∈ compsP A (m + 1) (m + 1) := by
    show l ∈ compsL A (m + 1)
    rw [e]; exact List.mem_cons_of_mem _ hl
  obtain ⟨v, hv, -, rfl⟩ := mem_compsP.1 this
  exact compL_pos hv
/-- One component alone: the first one holds all nodes. -/
theorem irr_eq (h : 1 ≤ n) : decide ((compL A n 0).length = n) = decide ((compsL A n).length = 1) := by
  obtain ⟨L, e, hL⟩ := compsL_first (A := A) h
  have hs := sum_compsL (A := A) (n := n)
  rw [e] at hs ⊢
  have hs : (compL A n 0).length + sumLen L = n := hs
  rw [Bool.eq_iff_iff, decide_eq_true_eq, decide_eq_true_eq]
  cases L with
  | nil =>
    have : sumLen ([] : List (List Int)) = 0 := rfl
    constructor
    · intro _; rfl
    · intro _; omega
  | cons l L =>
    have hl := hL l List.mem_cons_self
    have : sumLen (l :: L) = l.length + sumLen L := rfl
    constructor
    · intro h; omega
    · intro h; simp at h
end M
end Go.Proofs.YtmhpgnndjagogaaGreat

namespace Go.Proofs.YtmhpgnndjagogaaGreat
namespace M
variable {A : Nat → Nat → Int} {n : Nat}
def upd (S : Nat → Bool) (v i : Nat) : Bool := decide (i = v) || S i
/-- What a visit of v makes of the found nodes. -/
def Dfs (A : Nat → Nat → Int) (n v : Nat) (S S' : Nat → Bool) : Prop :=
  (∀ i, S i = true → S' i = true) ∧ S' v = true ∧ (∀ i, S' i = true → S i = true ∨ Rch A n v i) ∧ ∀ j i, j < n → S' j = true → S j = false → i < n → A i j ≠ -1000000000000000 → S' i = true
/-- .. and what it has made of them when k arcs have been looked at. -/
def Part (A : Nat → Nat → Int) (n v : Nat) (S : Nat → Bool) (k : Nat) (S' : Nat → Bool) : Prop :=
  (∀ i, S i = true → S' i = true) ∧ S' v = true ∧ (∀ i, S' i = true → S i = true ∨ Rch A n v i) ∧ (∀ j i, j < n → j ≠ v → S' j = true → S j = false → i < n → A i j ≠ -1000000000000000 → S' i = true) ∧ ∀ i, i < k → A i v ≠ -1000000000000000 → S' i = true
theorem dfs_start {v : Nat} {S : Nat → Bool} (hv : v < n) : Part A n v S 0 (upd S v) := by
  refine ⟨fun i h => by unfold upd; rw [h, Bool.or_true], by unfold upd; simp, fun i h => ?_, fun j i _ hne h hn => ?_, fun i h => absurd h (Nat.not_lt_zero i)⟩
  · unfold upd at h
    rw [Bool.or_eq_true, decide_eq_true_eq] at h
    rcases h with h | h
    · subst h; exact .inr (rch_self hv)
    · exact .inl h
  · unfold upd at h
    rw [hn, Bool.or_false, decide_eq_true_eq] at h
    exact absurd h hne
theorem dfs_skip {v k : Nat} {S S' : Nat → Bool} (h : Part A n v S k S') (hk : A k v = -1000000000000000 ∨ S' k = true) : Part A n v S (k + 1) S' := by
  obtain ⟨h1, h2, h3, h4, h5⟩ := h
  refine ⟨h1, h2, h3, h4, fun i hi ha => ?_⟩
  by_cases e : i = k
  · subst e
    rcases hk with hk | hk
    · exact absurd hk ha
    · exact hk
  · exact h5 i (by omega) ha
theorem dfs_call {v k : Nat} {S S' S'' : Nat → Bool} (hv : v < n) (hk : k < n) (ha : A k v ≠ -1000000000000000) (h : Part A n v S k S') (hd : Dfs A n k S' S'') : Part A n v S (k + 1) S'' := by
  obtain ⟨h1, h2, h3, h4, h5⟩ := h
  obtain ⟨d1, d2, d3, d4⟩ := hd
  refine ⟨fun i hi => d1 i (h1 i hi), d1 v h2, fun i hi => ?_, fun j i hj hne hs hn hi ha' => ?_, fun i hi ha' => ?_⟩
  · rcases d3 i hi with q | q
    · exact h3 i q
    · exact .inr (rch_trans (rch_step (rch_self hv) hk ha) q)
  · cases e : S' j with
    | true => exact d1 i (h4 j i hj hne e hn hi ha')
    | false => exact d4 j i hj hs e hi ha'
  · by_cases e : i = k
    · subst e; exact d2
    · exact d1 i (h5 i (by omega) ha')
theorem dfs_end {v : Nat} {S S' : Nat → Bool} (h : Part A n v S n S') : Dfs A n v S S' := by
  obtain ⟨h1, h2, h3, h4, h5⟩ := h
  refine ⟨h1, h2, h3, fun j i hj hs hn hi ha => ?_⟩
  by_cases e : j = v
  · subst e; exact h5 i hi ha
  · exact h4 j i hj e hs hn hi ha
theorem dfs_mono {v k : Nat} {S S' : Nat → Bool} (h : Part A n v S k S') : ∀ i, upd S v i = true → S' i = true := fun i hi => by
  unfold upd at hi
  rw [Bool.or_eq_true, decide_eq_true_eq] at hi
  rcases hi with q | q
  · subst q; exact h.2.1
  · exact h.1 i q
theorem cnt_le {p q : Nat → Bool} {k : Nat} (h : ∀ i, i < k → p i = true → q i = true) : cnt p k ≤ cnt q k := by
  induction k with
  | zero => exact Nat.le_refl _
  | succ k ih =>
    rw [cnt_next, cnt_next]
    have := ih fun i hi => h i (by omega)
    have h1 := h k (by omega)
    cases e1 : p k <;> cases e2 : q k <;> simp_all <;> omega
theorem cnt_max (p : Nat → Bool) (k : Nat) : cnt p k ≤ k := by
  induction k with
  | zero => exact Nat.le_refl _
  | succ k ih => rw [cnt_next]; split <;> omega
theorem cnt_lt {p q : Nat → Bool} {k v : Nat} (hv : v < k) (hp : p v = false) (hq : q v = true) (h : ∀ i, i < k → p i = true → q i = true) : cnt p k < cnt q k := by
  induction k with
  | zero => omega
  | succ k ih =>
    rw [cnt_next, cnt_next]
    by_cases e : v = k
    · subst e
      have := cnt_le (p := p) (q := q) (k := v) fun i hi => h i (by omega)
      rw [hp, hq]; simp; omega
    · have := ih (by omega) fun i hi => h i (by omega)
      have h1 := h k (by omega)
      cases e1 : p k <;> cases e2 : q k <;> simp_all <;> omega
theorem cnt_upd {S : Nat → Bool} {v : Nat} (hv : v < n) (h : S v = false) : cnt (upd S v) n = cnt S n + 1 := by
  have e := cnt_or (p := S) (q := fun i => decide (i = v)) (r := upd S v) (k := n) (fun i _ => by unfold upd; rw [Bool.or_comm]) (fun i _ hi => by
    rw [decide_eq_false_iff_not]; intro e; subst e; rw [h] at hi; cases hi)
  rw [e]
  congr 1
  clear e h
  induction n with
  | zero => omega
  | succ n ih =>
    rw [cnt_next]
    by_cases e : n = v
    · subst e
      rw [cnt_none fun i hi => decide_eq_false (by omega)]; simp
    · rw [ih (by omega)]; simp [e]
/-- Fewer nodes are left behind a visit's start. -/
theorem cnt_left {v f : Nat} {S S' : Nat → Bool} (hv : v < n) (hs : S v = false) (hm : ∀ i, upd S v i = true → S' i = true) (h : cnt (fun i => !S i) n ≤ f + 1) : cnt (fun i => !S' i) n ≤ f := by
  have := cnt_lt (p := fun i => !S' i) (q := fun i => !S i) (k := n) hv (by
    have := hm v (by unfold upd; simp)
    simp [this]) (by simp [hs]) (fun i _ hi => by
    cases e : S i with
    | false => rfl
    | true =>
      have := hm i (by unfold upd; rw [e, Bool.or_true])
      simp [this] at hi)
  omega
theorem dfs_all {v : Nat} {S' : Nat → Bool} (hv : v < n) (h : Dfs A n v (fun _ => false) S') (i : Nat) : S' i = rchB A n v i := by
  obtain ⟨-, h2, h3, h4⟩ := h
  exact rch_set hv h2 (fun i hi => by
    rcases h3 i hi with q | q
    · cases q
    · exact q) (fun k i hk hs hi ha => h4 k i hk hs rfl hi ha) i
end M
end Go.Proofs.YtmhpgnndjagogaaGreat

namespace Go.Proofs.YtmhpgnndjagogaaGreat
namespace M
def upF (A : Nat → Nat → Int) (n v i j : Nat) : Int := if rchB A n i v then A i j else -1000000000000000
def upF2 (A : Nat → Nat → Int) (n v i j : Nat) : Int := if rchB A n i v && rchB A n j v then A i j else -1000000000000000
def upK (A : Nat → Nat → Int) (n v k i j : Nat) : Int := if i < k then upF A n v i j else A i j
def upRes (R : List (List Int)) (x : Int) : (Int × Int) × Int := if sqB R then (if inN R.length x then cycMeanRes (mk R.length R.length (upF (ent R) R.length x.toNat)) else ((0, 0), 2)) else ((0, 0), 1)
theorem inN_j {n : Nat} {x : Int} (h : inN n x = true) : ∃ k : Nat, k < n ∧ x = k := by
  unfold inN at h
  rw [Bool.and_eq_true, decide_eq_true_eq, decide_eq_true_eq] at h
  exact ⟨x.toNat, by omega, by omega⟩
theorem sq_mk {n : Nat} {F : Nat → Nat → Int} (n1 : 1 ≤ n) (n2 : n ≤ 10) (hF : ∀ i j, i < n → j < n → isVal (F i j) = true) : sqB (mk n n F) = true := by
  unfold sqB
  rw [isMat_mk n1 n2 n1 n2 fun i hi j hj => hF i j hi hj, mk_wid n n F (by omega), mk_length]
  simp
/-- Without arcs that lie on no cycle the cycle mean is the same. -/
theorem cyc_mk {n : Nat} {F G : Nat → Nat → Int} (n1 : 1 ≤ n) (n2 : n ≤ 10) (hF : ∀ i j, i < n → j < n → isVal (F i j) = true) (hG : ∀ i j, i < n → j < n → G i j = F i j ∨ G i j = -1000000000000000)
    (hall : ∀ v s, Closed (ent (mk n n F)) n v s → ∀ u, u < s → G (v (u + 1)) (v u) = F (v (u + 1)) (v u)) : cycMeanRes (mk n n G) = cycMeanRes (mk n n F) := by
  have hG' : ∀ i j, i < n → j < n → isVal (G i j) = true := fun i j hi hj => by
    rcases hG i j hi hj with e | e
    · rw [e]; exact hF i j hi hj
    · rw [e]; simp [isVal]
  have hA : ∀ i j, i < n → j < n → Sm 1000000 (ent (mk n n F) i j) := fun i j hi hj => by rw [ent_mk _ _ _ _ _ hi hj]; exact sm_val (hF i j hi hj)
  obtain ⟨e1, e2⟩ := sub_all (A := ent (mk n n F)) (A' := ent (mk n n G)) n2 hA (fun i j hi hj => by rw [ent_mk _ _ _ _ _ hi hj, ent_mk _ _ _ _ _ hi hj]; exact hG i j hi hj) (fun v s hc u hu => by
    have h1 := hc.2.2.1 (u + 1) (by omega)
    have h2 := hc.2.2.1 u (by omega)
    rw [ent_mk _ _ _ _ _ h1 h2, ent_mk _ _ _ _ _ h1 h2]
    exact hall v s hc u hu)
  unfold cycMeanRes
  rw [sq_mk n1 n2 hG', sq_mk n1 n2 hF, mk_length, mk_length, e1]
  cases hc : hasCyc (ent (mk n n F)) n with
  | false => simp only [Bool.false_eq_true, if_false]
  | true => rw [e2 hc]
theorem up_val {R : List (List Int)} (hs : sqB R = true) (v : Nat) : ∀ i j, i < R.length → j < R.length → isVal (upF (ent R) R.length v i j) = true := fun i j hi hj => by
  obtain ⟨h1, h2⟩ := sqB_t hs
  unfold upF
  split
  · exact (isMat_t h1).2.2.2.2.2 i hi j (by rw [← h2]; exact hj)
  · simp [isVal]
theorem up_both {R : List (List Int)} (hs : sqB R = true) (v : Nat) : cycMeanRes (mk R.length R.length (upF2 (ent R) R.length v)) = cycMeanRes (mk R.length R.length (upF (ent R) R.length v)) := by
  obtain ⟨n1, n2, hA⟩ := sq_sm hs
  refine cyc_mk n1 n2 (up_val hs v) (fun i j hi hj => ?_) (fun x s hc u hu => ?_)
  · unfold upF2 upF
    cases rchB (ent R) R.length i v <;> cases rchB (ent R) R.length j v <;> simp
  · obtain ⟨c1, c2, c3, c4⟩ := hc
    have ha := owk_arc c4
    have hr : ∀ t, t < s → rchB (ent R) R.length (x (t + 1)) v = true := fun t ht => by
      have := ha t ht
      rw [ent_mk _ _ _ _ _ (c3 _ (by omega)) (c3 _ (by omega))] at this
      cases e : rchB (ent R) R.length (x (t + 1)) v with
      | true => rfl
      | false => unfold upF at this; rw [e, if_neg Bool.false_ne_true] at this; exact absurd (Eq.refl _) this
    have h1 := hr u hu
    have h2 : rchB (ent R) R.length (x u) v = true := by
      by_cases e : u = 0
      · have := hr (s - 1) (by omega)
        rw [show s - 1 + 1 = s by omega, c2] at this
        rw [e]; exact this
      · have := hr (u - 1) (by omega)
        rw [show u - 1 + 1 = u by omega] at this
        exact this
    unfold upF2 upF
    rw [h1, h2]; rfl
theorem mk_setrow {m n : Nat} (f : Nat → Nat → Int) (g : Nat → Int) (k : Nat) : (mk m n f).set k ((List.range n).map g) = mk m n fun i j => if i = k then g j else f i j := by
  unfold mk
  apply List.ext_getElem
  · simp
  · intro i h1 h2
    rw [List.getElem_set]
    simp only [List.getElem_map, List.getElem_range]
    by_cases e : k = i
    · rw [if_pos e]; subst e; simp
    · rw [if_neg e]
      have : ¬ i = k := fun h => e h.symm
      simp [this]
theorem upK_cut {A : Nat → Nat → Int} {n v k : Nat} (h : rchB A n k v = false) : (mk n n (upK A n v k)).set k ((List.range n).map fun _ => -1000000000000000) = mk n n (upK A n v (k + 1)) := by
  rw [mk_setrow]
  refine mk_congr fun i _ j _ => ?_
  unfold upK
  by_cases e : i = k
  · subst e
    rw [if_pos rfl, if_pos (by omega)]; unfold upF; rw [h]; rfl
  · rw [if_neg e]
    by_cases e2 : i < k
    · rw [if_pos e2, if_pos (by omega)]
    · rw [if_neg e2, if_neg (by omega)]
theorem upK_same {A : Nat → Nat → Int} {n v k : Nat} (h : rchB A n k v = true) : mk n n (upK A n v k) = mk n n (upK A n v (k + 1)) := by
  refine mk_congr fun i _ j _ => ?_
  unfold upK
  by_cases e : i = k
  · subst e
    rw [if_neg (by omega), if_pos (by omega)]; unfold upF; rw [h]; rfl
  · by_cases e2 : i < k
    · rw [if_pos e2, if_pos (by omega)]
    · rw [if_neg e2, if_neg (by omega)]
end M
end Go.Proofs.YtmhpgnndjagogaaGreat
