/- Texts laid together: Dr5, Dice, Evr. -/
import Derived.Test.YtihpbgjiohnekabGreatQz24
import Derived.Test.YtihpbgjiohnekabGreatQz18
import Derived.Test.YtihpbgjiohnekabGreatQz19
import Derived.Test.YtihpbgjiohnekabGreatQz17
import Derived.Test.YtihpbgjiohnekabGreatRows
import Derived.Test.YtihpbgjiohnekabGreatQz1
import Derived.Test.YtihpbgjiohnekabGreatQz3
import Derived.WalkKit
import Derived.ProofKit
import Derived.WalkSmall
import Derived.Deep.QuietTactic
import Derived.BigQuiet
import Derived.BigRegion
import Derived.Deep.Draws
import Derived.Deep.OwnRows
import Derived.Lib.Hide
import Derived.StillTailTactics
import Derived.IntWalk
import Derived.Conc.WgArith
import Derived.Laws.BitsLemmas
import Derived.Test.YtihpbgjiohnekabGreatQz16
set_option linter.unusedSimpArgs false
set_option linter.unusedVariables false
set_option linter.unusedSectionVars false
namespace Go.Proofs.YtihpbgjiohnekabGreat.V
set_option maxRecDepth 100000
open Go.RowKit
theorem eig_pos5 {R : List (List Int)} (h : (M.eigRes R).2.2 = 0) : 1 ≤ (M.eigRes R).1.length ∧ (M.eigRes R).1.length ≤ 10 ∧ (∀ i, i < (M.eigRes R).1.length → M.isVal ((M.eigRes R).1.getD i 0) = true) ∧ -1000000 ≤ (M.eigRes R).2.1.1 ∧ (M.eigRes R).2.1.1 ≤ 1000000 := by
  unfold M.eigRes at h ⊢
  by_cases h1 : (M.cycMeanRes R).2 = 0
  · rw [if_pos h1] at h ⊢
    unfold M.eigOk at h ⊢
    by_cases h2 : M.isVec (M.eigL R) = true
    · rw [if_pos h2]
      have hb := mean_bd h1
      obtain ⟨-, -, -, h4⟩ := M.cyc_t h1
      rw [h4] at hb
      exact ⟨(M.isVec_t h2).1, (M.isVec_t h2).2.1, (M.isVec_t h2).2.2, hb.1, hb.2.1⟩
    · rw [if_neg h2] at h; simp at h
  · rw [if_neg h1] at h; exact absurd h h1
set_option maxRecDepth 100000 in
set_option maxHeartbeats 4000000 in
theorem drawStretchMatrix (a : Option Addr) (n cap : Nat) (w : World) (h : Bytes w a n) :
    Calls Tryz.prog 54 #[.slice a n cap] w (DrawnMI w) := by
  have HB := Lib.hid h
  clear h
  go_enter Tryz.func54, Tryz.ntmps54
  go_wp2_with fail
  refine (from_ _ _ _ _ HB.out).mono ?_
  rintro e w1 ⟨rfl, hs1, hb1⟩
  have HS1 := Lib.hid hs1
  have HB1 := Lib.hid hb1
  have hg1 := hs1.lt
  clear hs1 hb1
  go_wp2_with fail
  refine (draw4 _ _ HS1.out).mono ?_
  rintro e w2 ⟨a2, n2, c2, R, rfl, -, ho, hs2, ht2⟩
  have HO2 := Lib.hid ho
  have HS2 := Lib.hid hs2
  have HB2 := Lib.hid (HB1.out.trans ht2.below)
  clear ho hs2 ht2
  go_wp2_with fail
  refine (next _ 12 _ (by decide) HS2.out).mono ?_
  rintro e w3 ⟨x, rfl, hx1, hx2, hs3, ht3⟩
  have HO3 := Lib.hid (HO2.out.thr ht3 hg1)
  have HS3 := Lib.hid hs3
  have HB3 := Lib.hid (HB2.out.trans ht3.below)
  have hg3 := hs3.lt
  clear hs3 ht3 hx2 HO2 HS2 HB2
  by_cases hx0 : x = 0
  · subst hx0
    go_wp2_with fail
    refine (pick _ _ 0 4 4 _ (HS3.out.alloc _) (by omega) (by omega) hg3 (litCells _ [0, 1, 1000000, 1000001] _ _ rfl (by decide))).mono ?_
    rintro e w4 ⟨y, rfl, hy, hs4, ht4⟩
    have HO4 := Lib.hid ((HO3.out.keep (w' := w3.alloc _) (fun k _ h2 => Below.heap_alloc _ _ _ h2)).thr ht4 hg1).mat
    have HB4 := Lib.hid ((HB3.out.alloc HB3.out.size _).trans ht4.below)
    clear hs4 ht4 hy
    go_wp2
    go_ret2
    exact ⟨_, _, _, R, _, rfl, HO4.out, HB4.out⟩
  · have e0 : (x == 0) = false := by simpa using hx0
    go_wp2_with fail
    refine (next _ 9 _ (by decide) HS3.out).mono ?_
    rintro e w4 ⟨y, rfl, hy1, hy2, hs4, ht4⟩
    have HO4 := Lib.hid (HO3.out.thr ht4 hg1).mat
    have HB4 := Lib.hid (HB3.out.trans ht4.below)
    clear hs4 ht4
    go_wp2
    go_ret2
    exact ⟨_, _, _, R, _, rfl, HO4.out, HB4.out⟩
theorem own_stay5 {w w' : World} {B : Nat} {v : Value} {l : List Int} (h : Own w B v l) (hk : ∀ k, v.ownBlock = some k → w'.heap[k]? = w.heap[k]?) : Own w' B v l := by
  obtain ⟨h1, h2⟩ := h
  refine ⟨h1, ?_⟩
  rcases h2 with h2 | ⟨g, cap, cur, hv, hg, hh, r⟩
  · exact .inl h2
  · exact .inr ⟨g, cap, cur, hv, hg, (hk g (by rw [hv]; rfl)).trans hh, r⟩
set_option maxRecDepth 100000 in
set_option maxHeartbeats 4000000 in
theorem drawVector5 (g : Nat) (w0 : World) (h : Src w0 g) : Calls Tryz.prog 125 #[.pointer (some ⟨g, 0, none⟩)] w0 (DrawPR g w0) := by
  obtain ⟨w, hwd⟩ : ∃ w, w = w0.alloc (rbox 0 0) := ⟨_, rfl⟩
  have hgl := h.lt
  have hsz : w.heap.size = w0.heap.size + 1 := by rw [hwd]; simp
  have HS := Lib.hid (show Src w g by rw [hwd]; exact h.alloc _)
  have HT := Lib.hid (show Thr g w0 w by rw [hwd]; exact (Thr.refl g w0).alloc (by omega) _)
  have HSz := Lib.hid hsz
  have hgw : g < w.heap.size := by omega
  clear h hsz
  go_enter Tryz.func125, Tryz.ntmps125
  go_wp2_with fail
  change Calls _ _ _ (w0.alloc (rbox 0 0)) _
  rw [← hwd]
  have HWD := Lib.hid hwd
  clear hwd
  refine (draw4 g _ HS.out).mono ?_
  rintro e w1 ⟨a2, n2, c2, R, rfl, hn2, ho, hs2, ht2⟩
  have HO1 := Lib.hid ho
  have HS1 := Lib.hid hs2
  have HT1 := Lib.hid ht2
  have hz1 := ht2.below.size
  clear ho hs2 ht2
  obtain ⟨ev, hev⟩ : ∃ ev, ev = M.eigRes R := ⟨_, rfl⟩
  have hpp := eig_pos5 (R := R)
  rw [← hev] at hpp
  have HEV := Lib.hid hev
  clear hev
  obtain ⟨l, ⟨e1, e2⟩, d⟩ := ev
  go_wp2_with fail
  refine (sEigenVector _ _ _ R _ HO1.out.mat).mono ?_
  rintro e w2 ⟨xa, xn, xc, rfl, ho, hb⟩
  rw [← HEV.out] at ho ⊢
  have ho : Own w2 w1.heap.size (.slice xa xn xc) l := ho
  have hxl : xn = l.length := ho.len
  have hz2 := hb.size
  have hg1 := HS1.out.lt
  have ht2 : Thr g w1 w2 := Thr.of_below hb (by omega)
  have HO2 := Lib.hid (HO1.out.below hb)
  have HS2 := Lib.hid (HS1.out.below (hb.mono hg1))
  have HT2 := Lib.hid (HT1.out.trans ht2)
  have hw2z : w1.heap.size ≤ w2.heap.size := hb.size
  obtain ⟨w4, hw4⟩ : ∃ x, x = w2.alloc (rbox e1 e2) := ⟨_, rfl⟩
  have HW4 := Lib.hid hw4
  have HX2 := Lib.hid ho
  have HX4 : Hid (Own w4 w1.heap.size (.slice xa xn xc) l) := by show Own _ _ _ _; rw [hw4]; exact ho.below (b_alloc _ _)
  have HO4 : Hid (OwnM w4 w.heap.size (.slice a2 n2 c2) R) := by show OwnM _ _ _ _; rw [hw4]; exact HO2.out.below (b_alloc _ _)
  have HOC : Hid (OwnMC w1 w.heap.size w1.heap.size (.slice a2 n2 c2) R) := Lib.hid HO1.out.upto
  have HU4 : Hid (Thr g w1 w4) := by show Thr _ _ _; rw [hw4]; exact ht2.alloc (by omega) _
  have HS4 : Hid (Src w4 g) := by show Src _ _; rw [hw4]; exact HS2.out.alloc _
  have HV4 : Hid (Thr g w w4) := by show Thr _ _ _; rw [hw4]; exact HT2.out.alloc (by omega) _
  have hz4 : w4.heap.size = w2.heap.size + 1 := by rw [hw4]; simp
  clear ho hb ht2 HO2 HS2 HT2 HT1
  have hn2w : (Lit.int .i64 (n2 : Int)).wf = true := wf_small _ (by omega) (by omega)
  by_cases hd : d = 0
  · subst hd
    obtain ⟨q1, q2, q5, qe1, qe2⟩ := hpp rfl
    have qe1 : -1000000 ≤ e1 := qe1
    have qe2 : e1 ≤ 1000000 := qe2
    have q1 : 1 ≤ l.length := q1
    have q2 : l.length ≤ 10 := q2
    have q3 : 1 ≤ xn := by omega
    have q4 : xn ≤ 10 := by omega
    have hxw : (Lit.int .i64 (xn : Int)).wf = true := wf_small _ (by omega) (by omega)
    have HQ : Hid (∀ i, i < xn → Wid (l.getD i 0)) := Lib.hid (fun i hi => wid_val (q5 i (by omega)))
    have HXl := Lib.hid hxl
    have hfx : ∃ xg, xa = some ⟨xg, 0, none⟩ ∧ w1.heap.size ≤ xg ∧ xg < w2.heap.size := by
      obtain ⟨a', c', hv, -, -, hg⟩ := own_form HX2.out
      injection hv with e1 e2 e3
      obtain ⟨xg, hx1, hx2, hx3⟩ := hg (by first | (simp; omega) | omega)
      exact ⟨xg, e1.trans hx1, hx2, hx3⟩
    obtain ⟨xg, rfl, hxg1, hxg2⟩ := hfx
    clear hpp hxl q1 q2 q5
    go_wp2_with fail
    change Calls _ _ _ (w2.alloc (rbox e1 e2)) _
    rw [← hw4]
    clear hw4
    refine (next g 6 _ (by decide) HS4.out).mono ?_
    rintro e w5 ⟨x, rfl, -, -, hs5, ht5⟩
    have HO5 := Lib.hid (HO4.out.thr ht5 hgw)
    have HX5 := Lib.hid (HX4.out.thr ht5 (by omega))
    have HS5 := Lib.hid hs5
    have HV5 := Lib.hid (HV4.out.trans ht5)
    have HU5 := Lib.hid (HU4.out.trans ht5)
    have HZ5 := Lib.hid ht5
    clear hs5 ht5
    by_cases hx : x = 0
    · subst hx
      go_wp2_with fail
      refine (drawRatio g _ HS5.out).mono ?_
      rintro e wa ⟨x1, y1, rfl, hx1, hy1, hsa, hta⟩
      have HOa := Lib.hid (HO5.out.thr hta hgw)
      have HSa := Lib.hid hsa
      have HVa := Lib.hid (HV5.out.trans hta)
      clear hsa hta
      go_wp2_with fail
      refine (drawVector g n2 _ HSa.out (by omega)).mono ?_
      rintro e wb ⟨b, N, c, lv, rfl, hov, hsb, htb⟩
      have HOb := Lib.hid (HOa.out.thr htb hgw)
      have HXb : Hid (Own wb w.heap.size (.slice b N c) lv) := Lib.hid (hov.mono (by have := HVa.out.below.size; omega))
      have HSb := Lib.hid hsb
      have HVb := Lib.hid (HVa.out.trans htb)
      clear hov hsb htb
      obtain ⟨⟨r0, s1⟩, z0, z1, hlt⟩ := box_thr HWD.out hgl HVb.out
      have hTf : Thr g w0 wb := HT.out.trans HVb.out
      go_wp2
      exact bodyPost_ret (v := .tuple #[.slice a2 n2 c2, .agg #[.int .i64 x1, .int .i64 y1], .slice b N c]) (by simp [results, Tryz.results125, go_sem, r0, s1]) rfl
        ⟨_, _, _, R, _, _, _, _, _, lv, rfl, hn2, (HOb.out.keep (fun k h1 _ => (Below.heap_setCell _ _ _ _ (by have := HSz.out; show k ≠ w0.heap.size; omega)).trans (Below.heap_setCell _ _ _ _ (by have := HSz.out; show k ≠ w0.heap.size; omega)))).mono (by have := HSz.out; omega), (HXb.out.keep (fun k h1 _ => (Below.heap_setCell _ _ _ _ (by have := HSz.out; show k ≠ w0.heap.size; omega)).trans (Below.heap_setCell _ _ _ _ (by have := HSz.out; show k ≠ w0.heap.size; omega)))).mono (by have := HSz.out; omega), (HSb.out.setNew hgl _).setNew hgl _, ((hTf).setNew (Nat.le_refl _) (Nat.le_of_lt hgl) _).setNew (Nat.le_refl _) (Nat.le_of_lt hgl) _⟩
    · have ex : (x == 0) = false := by simpa using hx
      go_wp2_with fail
      refine (next g (xn : Int) _ hxw HS5.out).mono ?_
      rintro e w6 ⟨p, rfl, hp1, hp2, hs6, ht6⟩
      obtain ⟨p, rfl⟩ := Int.eq_ofNat_of_zero_le hp1
      have hp3 : p < xn := by omega
      have hpi : (p : Int) < (xn : Int) := by omega
      have HX6 := Lib.hid (HX5.out.thr ht6 (by omega))
      have HS6 := Lib.hid hs6
      have HV6 := Lib.hid (HV5.out.trans ht6)
      have HU6 := Lib.hid (HU5.out.trans ht6)
      have HZ6 := Lib.hid (HZ5.out.trans ht6)
      clear hs6 ht6 hp1 hp2
      go_wp2_with fail
      refine (next g 5 _ (by decide) HS6.out).mono ?_
      rintro e w7 ⟨y, rfl, hy1, hy2, hs7, ht7⟩
      have HX7 := Lib.hid (HX6.out.thr ht7 (by omega))
      have HS7 := Lib.hid hs7
      have HV7 := Lib.hid (HV6.out.trans ht7)
      have HU7 := Lib.hid (HU6.out.trans ht7)
      have HZ7 := Lib.hid (HZ6.out.trans ht7)
      have HO7 : Hid (OwnM w7 w.heap.size (.slice a2 n2 c2) R) := Lib.hid (HOC.out.keep (fun k h1 h2 => HU7.out.other k (by omega) h2)).own
      clear hs7 ht7 hy1 hy2
      obtain ⟨⟨u0, u1⟩, v0, v1, hlt2⟩ := box_thr HW4.out (by omega) HZ7.out
      by_cases y0 : y = 0
      · subst y0
        have cx := HX7.out.cellAt p hp3
        have fx := HX7.out.frozenAt p
        obtain ⟨v, hv⟩ : ∃ v, v = l.getD p 0 := ⟨_, rfl⟩
        have hvw := HQ.out p hp3
        rw [← hv] at cx hvw
        obtain ⟨hvw1, hvw2⟩ := hvw
        have hlit : ([v + 1, v - 1, -1000000000000000].all fun x => (Lit.int .i64 x).wf) = true := by
          show ((Lit.int .i64 (v + 1)).wf && ((Lit.int .i64 (v - 1)).wf && ((Lit.int .i64 (-1000000000000000)).wf && true))) = true
          rw [wf_small _ (by omega) (by omega), wf_small _ (by omega) (by omega)]; rfl
        clear hv
        go_wp2
        go_region_with (go_at_call 126; rw [IntWalk.i64_in (v + 1) (by omega), IntWalk.i64_in (v - 1) (by omega)]; refine (pick g _ 0 3 3 _ (HS7.out.alloc _).drew (by omega) (by omega) (by exact HS7.out.lt) (fun i hi => by have h := litCells w7 [v + 1, v - 1, -1000000000000000] #[.int .i64 (v + 1), .int .i64 (v - 1), .int .i64 (-1000000000000000)] 2 rfl hlit i hi; exact h)).mono ?_; rintro e w8 ⟨z, rfl, -, hs8, ht8⟩; have ht7 : Thr g w7 w8 := (((Thr.refl g w7).alloc (by omega) _).drew).trans ht8; have HX8 := Lib.hid (HX7.out.thr ht7 (by omega)); have HT7 := Lib.hid ht7; have HS8 := Lib.hid hs8; have cx8 := HX8.out.cellAt p hp3; have fx8 := HX8.out.frozenAt p; clear hs8 ht8 ht7)
        all_goals
          have ht7 := HT7.out
          have hs8 := HS8.out
          have hX8 := HX8.out
          obtain ⟨w9, hw9⟩ : ∃ x, x = w8.setCell ⟨xg, p, none⟩ (.int .i64 z) := ⟨_, rfl⟩
          have HX9 : Hid (Own w9 w1.heap.size (.slice (some ⟨xg, 0, none⟩) xn xc) (l.set p z)) := by show Own _ _ _ _; rw [hw9]; exact Own.set hX8 p z
          have HU9 : Hid (Thr g w1 w9) := by show Thr _ _ _; rw [hw9]; exact (HU7.out.trans ht7).setNew (by show w1.heap.size ≤ xg; omega) (by show g ≤ xg; omega) _
          have HV9 : Hid (Thr g w w9) := by show Thr _ _ _; rw [hw9]; exact (HV7.out.trans ht7).setNew (by show w.heap.size ≤ xg; omega) (by show g ≤ xg; omega) _
          have HS9 : Hid (Src w9 g) := by show Src _ _; rw [hw9]; exact hs8.setNew (by show g < xg; omega) _
          have hz9 : w9.cell? ⟨w2.heap.size, 0, none⟩ = w8.cell? ⟨w2.heap.size, 0, none⟩ ∧ w9.cell? ⟨w2.heap.size, 1, none⟩ = w8.cell? ⟨w2.heap.size, 1, none⟩ := by
            rw [hw9]
            exact ⟨World.cell?_of_block (Below.heap_setCell _ _ _ _ (by show w2.heap.size ≠ xg; omega)), World.cell?_of_block (Below.heap_setCell _ _ _ _ (by show w2.heap.size ≠ xg; omega))⟩
          obtain ⟨⟨u0', u1'⟩, -, -, hlt3⟩ := box_thr HW4.out (by omega) (HZ7.out.trans ht7)
          have u0 := hz9.1.trans u0'
          have u1 := hz9.2.trans u1'
          have HO9 : Hid (OwnM w9 w.heap.size (.slice a2 n2 c2) R) := Lib.hid (HOC.out.keep (fun k h1 h2 => HU9.out.other k (by omega) h2)).own
          clear hz9 u0' u1' hX8 cx fx
          go_wp2
          rw [← hw9]
          clear hw9 hs8 ht7
          obtain ⟨⟨r0, s1⟩, z0, z1, hlt⟩ := box_thr HWD.out hgl HV9.out
          have hTf : Thr g w0 w9 := HT.out.trans HV9.out
          go_region
          all_goals
            go_wp2
            exact bodyPost_ret (v := .tuple #[.slice a2 n2 c2, .agg #[.int .i64 e1, .int .i64 e2], .slice (some ⟨xg, 0, none⟩) xn xc]) (by simp [results, Tryz.results125, go_sem, r0, s1]) rfl
              ⟨_, _, _, R, _, _, _, _, _, l.set p z, rfl, hn2, (HO9.out.keep (fun k h1 _ => (Below.heap_setCell _ _ _ _ (by have := HSz.out; show k ≠ w0.heap.size; omega)).trans (Below.heap_setCell _ _ _ _ (by have := HSz.out; show k ≠ w0.heap.size; omega)))).mono (by have := HSz.out; omega), (HX9.out.keep (fun k h1 _ => (Below.heap_setCell _ _ _ _ (by have := HSz.out; show k ≠ w0.heap.size; omega)).trans (Below.heap_setCell _ _ _ _ (by have := HSz.out; show k ≠ w0.heap.size; omega)))).mono (by have := HSz.out; omega), (HS9.out.setNew hgl _).setNew hgl _, (((hTf).setNew (Nat.le_refl _) (Nat.le_of_lt hgl) _).setNew (Nat.le_refl _) (Nat.le_of_lt hgl) _).drew⟩
      · have ey0 : (y == 0) = false := by simpa using y0
        by_cases y1 : y = 1
        · subst y1
          have hg7 : w7.heap[w2.heap.size]? = some (.cells #[.int .i64 e1, .int .i64 e2] 26 (0, 0)) := by
            have h4 : w4.heap[w2.heap.size]? = some (.cells #[.int .i64 e1, .int .i64 e2] 26 (0, 0)) := by rw [HW4.out]; exact heap_alloc_last _ _
            exact (HZ7.out.other _ (by omega) (by omega)).trans h4
          have HG7 := Lib.hid hg7
          clear u0 u1 v0 v1 hg7
          go_wp2_with fail
          refine (next g 9 _ (by decide) HS7.out).mono ?_
          rintro e w8 ⟨z, rfl, hz1, hz2, hs8, ht8⟩
          have HX8 := Lib.hid (HX7.out.thr ht8 (by omega))
          have HS8 := Lib.hid hs8
          have HV8 := Lib.hid (HV7.out.trans ht8)
          have HU8 := Lib.hid (HU7.out.trans ht8)
          have HG8 : Hid (w8.heap[w2.heap.size]? = some (.cells #[.int .i64 e1, .int .i64 e2] 26 (0, 0))) := Lib.hid ((ht8.other _ (by omega) (by omega)).trans HG7.out)
          have hlt8 : w2.heap.size < w8.heap.size := by have := ht8.below.size; omega
          have hzw : Wid (z - 4) := ⟨by omega, by omega⟩
          have hzl : 0 ≤ z := hz1
          have hzu : z ≤ 9 := by omega
          have HZw := Lib.hid hzw
          clear hs8 ht8 hz1 hz2 hzw HX7 HS7 HV7 HU7 HZ7 HO7 HG7
          go_wp2
          go_loopw [11] (fun iv wr => ∃ (q : Nat) (l' : List Int), q ≤ xn ∧ iv = .int .i64 q ∧ Hid (Own wr w1.heap.size (.slice (some ⟨xg, 0, none⟩) xn xc) l') ∧ Hid (∀ j, q ≤ j → l'.getD j 0 = l.getD j 0) ∧ Hid (Thr g w1 wr) ∧ Hid (Thr g w wr) ∧ Hid (Src wr g) ∧ Hid (wr.heap[w2.heap.size]? = some (.cells #[.int .i64 e1, .int .i64 e2] 26 (0, 0)))) (fun iv _ => xn - (intOf iv).toNat)
          case atStart => exact ⟨0, l, Nat.zero_le _, rfl, HX8, Lib.hid (fun _ _ => rfl), HU8, HV8, HS8, HG8⟩
          case round =>
            obtain ⟨q, l', hq, rfl, HX, HL, HU, HV, HSr, HG⟩ := hrel
            clear HX8 HU8 HV8 HS8 HG8
            by_cases hlt : q < xn
            · have hqi : (q : Int) < (xn : Int) := by omega
              have cx := HX.out.cellAt q hlt
              have fx := HX.out.frozenAt q
              have hvw := HQ.out q hlt
              rw [← HL.out q (Nat.le_refl _)] at hvw
              obtain ⟨v, hv⟩ : ∃ v, v = l'.getD q 0 := ⟨_, rfl⟩
              rw [← hv] at cx hvw
              have HVw := Lib.hid hvw
              have HXn : Hid (∀ y, Own (wr.setCell ⟨xg, q, none⟩ (.int .i64 y)) w1.heap.size (.slice (some ⟨xg, 0, none⟩) xn xc) (l'.set q y)) := Lib.hid (fun y => Own.set HX.out q y)
              have HLn : Hid (∀ y j, q + 1 ≤ j → (l'.set q y).getD j 0 = l.getD j 0) := Lib.hid (fun y j hj => by
                rw [← HL.out j (by omega)]
                simp only [List.getD_eq_getElem?_getD]
                rw [List.getElem?_set_ne (by omega)])
              clear hv hvw
              go_wp2_with (go_at_call 151; refine (sTimesW _ _ _ HVw.out HZw.out).mono ?_; rintro e w' ⟨rfl, rfl⟩)
              go_roundw
              case rel => exact ⟨q + 1, _, by omega, by go_num, Lib.hid (HXn.out _), Lib.hid (HLn.out _), Lib.hid (HU.out.setNew (by show w1.heap.size ≤ xg; omega) (by show g ≤ xg; omega) _), Lib.hid (HV.out.setNew (by show w.heap.size ≤ xg; omega) (by show g ≤ xg; omega) _), Lib.hid (HSr.out.setNew (by show g < xg; omega) _), Lib.hid ((Below.heap_setCell _ _ _ _ (by show w2.heap.size ≠ xg; omega)).trans HG.out)⟩
              case measure => simp [intOf]; omega
            · have HOf : Hid (OwnM wr w.heap.size (.slice a2 n2 c2) R) := Lib.hid (HOC.out.keep (fun k h1 h2 => HU.out.other k (by omega) h2)).own
              have u0 : wr.cell? ⟨w2.heap.size, 0, none⟩ = some (.int .i64 e1) := by rw [cell_of_row _ _ _ _ _ _ HG.out]; rfl
              have u1 : wr.cell? ⟨w2.heap.size, 1, none⟩ = some (.int .i64 e2) := by rw [cell_of_row _ _ _ _ _ _ HG.out]; rfl
              obtain ⟨⟨r0, s1⟩, z0, z1, hlt⟩ := box_thr HWD.out hgl HV.out
              have hTf : Thr g w0 wr := HT.out.trans HV.out
              have hqn : ¬ ((q : Int) < (xn : Int)) := by omega
              go_wp2
              go_region
              all_goals
                go_wp2
                exact bodyPost_ret (v := .tuple #[.slice a2 n2 c2, .agg #[.int .i64 e1, .int .i64 e2], .slice (some ⟨xg, 0, none⟩) xn xc]) (by simp [results, Tryz.results125, go_sem, r0, s1]) rfl
                  ⟨_, _, _, R, _, _, _, _, _, l', rfl, hn2, (HOf.out.keep (fun k h1 _ => (Below.heap_setCell _ _ _ _ (by have := HSz.out; show k ≠ w0.heap.size; omega)).trans (Below.heap_setCell _ _ _ _ (by have := HSz.out; show k ≠ w0.heap.size; omega)))).mono (by have := HSz.out; omega), (HX.out.keep (fun k h1 _ => (Below.heap_setCell _ _ _ _ (by have := HSz.out; show k ≠ w0.heap.size; omega)).trans (Below.heap_setCell _ _ _ _ (by have := HSz.out; show k ≠ w0.heap.size; omega)))).mono (by have := HSz.out; omega), (HSr.out.setNew hgl _).setNew hgl _, (((hTf).setNew (Nat.le_refl _) (Nat.le_of_lt hgl) _).setNew (Nat.le_refl _) (Nat.le_of_lt hgl) _).drew⟩
        · have ey1 : (y == 1) = false := by simpa using y1
          by_cases y2 : y = 2
          · subst y2
            have hu0 : w2.heap.size < w7.heap.size := hlt2
            obtain ⟨w8, hw8⟩ : ∃ x, x = (w7.setCell ⟨w2.heap.size, 0, none⟩ (.int .i64 (e1 + 1))).setCell ⟨w2.heap.size, 1, none⟩ (.int .i64 e2) := ⟨_, rfl⟩
            have HX8 : Hid (Own w8 w1.heap.size (.slice (some ⟨xg, 0, none⟩) xn xc) l) := by
              show Own _ _ _ _
              rw [hw8]
              exact own_stay5 HX7.out (fun k hk => by
                have hk : xg = k := Option.some.inj hk
                subst hk
                exact (Below.heap_setCell _ _ _ _ (by show xg ≠ w2.heap.size; omega)).trans (Below.heap_setCell _ _ _ _ (by show xg ≠ w2.heap.size; omega)))
            have HU8 : Hid (Thr g w1 w8) := by show Thr _ _ _; rw [hw8]; exact (HU7.out.setNew (by show w1.heap.size ≤ w2.heap.size; omega) (by show g ≤ w2.heap.size; omega) _).setNew (by show w1.heap.size ≤ w2.heap.size; omega) (by show g ≤ w2.heap.size; omega) _
            have HV8 : Hid (Thr g w w8) := by show Thr _ _ _; rw [hw8]; exact (HV7.out.setNew (by show w.heap.size ≤ w2.heap.size; omega) (by show g ≤ w2.heap.size; omega) _).setNew (by show w.heap.size ≤ w2.heap.size; omega) (by show g ≤ w2.heap.size; omega) _
            have HS8 : Hid (Src w8 g) := by show Src _ _; rw [hw8]; exact (HS7.out.setNew (by show g < w2.heap.size; omega) _).setNew (by show g < w2.heap.size; omega) _
            have HO8 : Hid (OwnM w8 w.heap.size (.slice a2 n2 c2) R) := Lib.hid (HOC.out.keep (fun k h1 h2 => HU8.out.other k (by omega) h2)).own
            have hg7 : w7.heap[w2.heap.size]? = some (.cells #[.int .i64 e1, .int .i64 e2] 26 (0, 0)) := by
              have h4 : w4.heap[w2.heap.size]? = some (.cells #[.int .i64 e1, .int .i64 e2] 26 (0, 0)) := by rw [HW4.out]; exact heap_alloc_last _ _
              exact (HZ7.out.other _ (by omega) (by omega)).trans h4
            have hg8 : w8.heap[w2.heap.size]? = some (.cells #[.int .i64 (e1 + 1), .int .i64 e2] 26 (0, 0)) := by
              rw [hw8, setCell_eq_setRow w7 _ 0 _ _ _ _ hg7]
              have h1 := setRow_heap w7 w2.heap.size _ (#[.int .i64 e1, .int .i64 e2].setIfInBounds 0 (.int .i64 (e1 + 1))) _ _ hg7
              rw [setCell_eq_setRow _ _ 1 _ _ _ _ h1]
              exact setRow_heap _ _ _ _ _ _ h1
            have u0n : w8.cell? ⟨w2.heap.size, 0, none⟩ = some (.int .i64 (e1 + 1)) := by rw [cell_of_row _ _ _ _ _ _ hg8]; rfl
            have u1n : w8.cell? ⟨w2.heap.size, 1, none⟩ = some (.int .i64 e2) := by rw [cell_of_row _ _ _ _ _ _ hg8]; rfl
            clear hg7 hg8
            go_wp2
            rw [← hw8]
            clear hw8 u0 u1 v0 v1
            obtain ⟨⟨r0, s1⟩, z0, z1, hlt⟩ := box_thr HWD.out hgl HV8.out
            have hTf : Thr g w0 w8 := HT.out.trans HV8.out
            go_region
            all_goals
              go_wp2
              exact bodyPost_ret (v := .tuple #[.slice a2 n2 c2, .agg #[.int .i64 (e1 + 1), .int .i64 e2], .slice (some ⟨xg, 0, none⟩) xn xc]) (by simp [results, Tryz.results125, go_sem, r0, s1]) rfl
                ⟨_, _, _, R, _, _, _, _, _, l, rfl, hn2, (HO8.out.keep (fun k h1 _ => (Below.heap_setCell _ _ _ _ (by have := HSz.out; show k ≠ w0.heap.size; omega)).trans (Below.heap_setCell _ _ _ _ (by have := HSz.out; show k ≠ w0.heap.size; omega)))).mono (by have := HSz.out; omega), (HX8.out.keep (fun k h1 _ => (Below.heap_setCell _ _ _ _ (by have := HSz.out; show k ≠ w0.heap.size; omega)).trans (Below.heap_setCell _ _ _ _ (by have := HSz.out; show k ≠ w0.heap.size; omega)))).mono (by have := HSz.out; omega), (HS8.out.setNew hgl _).setNew hgl _, (((hTf).setNew (Nat.le_refl _) (Nat.le_of_lt hgl) _).setNew (Nat.le_refl _) (Nat.le_of_lt hgl) _).drew⟩
          · have ey2 : (y == 2) = false := by simpa using y2
            obtain ⟨⟨r0, s1⟩, z0, z1, hlt⟩ := box_thr HWD.out hgl HV7.out
            have hTf : Thr g w0 w7 := HT.out.trans HV7.out
            go_wp2
            go_region
            all_goals
              go_wp2
              exact bodyPost_ret (v := .tuple #[.slice a2 n2 c2, .agg #[.int .i64 e1, .int .i64 e2], .slice (some ⟨xg, 0, none⟩) xn xc]) (by simp [results, Tryz.results125, go_sem, r0, s1]) rfl
                ⟨_, _, _, R, _, _, _, _, _, l, rfl, hn2, (HO7.out.keep (fun k h1 _ => (Below.heap_setCell _ _ _ _ (by have := HSz.out; show k ≠ w0.heap.size; omega)).trans (Below.heap_setCell _ _ _ _ (by have := HSz.out; show k ≠ w0.heap.size; omega)))).mono (by have := HSz.out; omega), (HX7.out.keep (fun k h1 _ => (Below.heap_setCell _ _ _ _ (by have := HSz.out; show k ≠ w0.heap.size; omega)).trans (Below.heap_setCell _ _ _ _ (by have := HSz.out; show k ≠ w0.heap.size; omega)))).mono (by have := HSz.out; omega), (HS7.out.setNew hgl _).setNew hgl _, (((hTf).setNew (Nat.le_refl _) (Nat.le_of_lt hgl) _).setNew (Nat.le_refl _) (Nat.le_of_lt hgl) _).drew⟩
  · have hd1 : (d != 0) = true := by simpa using hd
    go_wp2_with fail
    change Calls _ _ _ (w2.alloc (rbox e1 e2)) _
    rw [← hw4]
    clear hw4
    refine (drawRatio g _ HS4.out).mono ?_
    rintro e wa ⟨x1, y1, rfl, hx1, hy1, hsa, hta⟩
    have HOa := Lib.hid (HO4.out.thr hta hgw)
    have HSa := Lib.hid hsa
    have HVa := Lib.hid (HV4.out.trans hta)
    clear hsa hta
    go_wp2_with fail
    refine (drawVector g n2 _ HSa.out (by omega)).mono ?_
    rintro e wb ⟨b, N, c, lv, rfl, hov, hsb, htb⟩
    have HOb := Lib.hid (HOa.out.thr htb hgw)
    have HXb : Hid (Own wb w.heap.size (.slice b N c) lv) := Lib.hid (hov.mono (by have := HVa.out.below.size; omega))
    have HSb := Lib.hid hsb
    have HVb := Lib.hid (HVa.out.trans htb)
    clear hov hsb htb
    obtain ⟨⟨r0, s1⟩, z0, z1, hlt⟩ := box_thr HWD.out hgl HVb.out
    have hTf : Thr g w0 wb := HT.out.trans HVb.out
    go_wp2
    exact bodyPost_ret (v := .tuple #[.slice a2 n2 c2, .agg #[.int .i64 x1, .int .i64 y1], .slice b N c]) (by simp [results, Tryz.results125, go_sem, r0, s1]) rfl
      ⟨_, _, _, R, _, _, _, _, _, lv, rfl, hn2, (HOb.out.keep (fun k h1 _ => (Below.heap_setCell _ _ _ _ (by have := HSz.out; show k ≠ w0.heap.size; omega)).trans (Below.heap_setCell _ _ _ _ (by have := HSz.out; show k ≠ w0.heap.size; omega)))).mono (by have := HSz.out; omega), (HXb.out.keep (fun k h1 _ => (Below.heap_setCell _ _ _ _ (by have := HSz.out; show k ≠ w0.heap.size; omega)).trans (Below.heap_setCell _ _ _ _ (by have := HSz.out; show k ≠ w0.heap.size; omega)))).mono (by have := HSz.out; omega), (HSb.out.setNew hgl _).setNew hgl _, ((hTf).setNew (Nat.le_refl _) (Nat.le_of_lt hgl) _).setNew (Nat.le_refl _) (Nat.le_of_lt hgl) _⟩
set_option maxRecDepth 100000 in
set_option maxHeartbeats 1000000 in
theorem drawIsEigenVector (a : Option Addr) (n cap : Nat) (w0 : World) (h : Bytes w0 a n) :
    Calls Tryz.prog 53 #[.slice a n cap] w0 (DrawnMRV w0) := by
  obtain ⟨w, hwd⟩ : ∃ w, w = w0.alloc (rbox 0 0) := ⟨_, rfl⟩
  have HB := Lib.hid (show Bytes w a n by rw [hwd]; exact h.below (b_alloc _ _))
  have hsz : w.heap.size = w0.heap.size + 1 := by rw [hwd]; simp
  have HSz := Lib.hid hsz
  have HWB := Lib.hid (show Below w0.heap.size w0 w by rw [hwd]; exact b_alloc _ _)
  clear h hsz
  go_enter Tryz.func53, Tryz.ntmps53
  go_wp2_with fail
  change Calls _ _ _ (w0.alloc (rbox 0 0)) _
  rw [← hwd]
  have HWD := Lib.hid hwd
  clear hwd
  refine (from_ _ _ _ _ HB.out).mono ?_
  rintro e w1 ⟨rfl, hs1, hb1⟩
  have HS1 := Lib.hid hs1
  have HB1 := Lib.hid hb1
  clear hs1 hb1
  go_wp2_with fail
  refine (drawVector5 _ _ HS1.out).mono ?_
  rintro e w2 ⟨a2, n2, c2, R, x, y, b, N, c, l, rfl, -, ho, hv, hs2, ht2⟩
  have HO := Lib.hid ho
  have HV := Lib.hid hv
  have HB2 := Lib.hid (HB1.out.trans ht2.below)
  obtain ⟨⟨r0, r1⟩, z0, z1, hlt⟩ := box_bel HWD.out HB2.out
  have hz1 := HB1.out.size
  clear ho hv hs2 ht2
  go_wp2
  exact bodyPost_ret (v := .tuple #[.slice a2 n2 c2, .agg #[.int .i64 x, .int .i64 y], .slice b N c]) (by simp [results, Tryz.results53, go_sem, r0, r1]) rfl
    ⟨_, _, _, R, _, _, _, _, _, l, rfl, (HO.out.keep (fun k h1 _ => (Below.heap_setCell _ _ _ _ (by have := HSz.out; show k ≠ w0.heap.size; omega)).trans (Below.heap_setCell _ _ _ _ (by have := HSz.out; show k ≠ w0.heap.size; omega)))).mat, (HV.out.keep (fun k h1 _ => (Below.heap_setCell _ _ _ _ (by have := HSz.out; show k ≠ w0.heap.size; omega)).trans (Below.heap_setCell _ _ _ _ (by have := HSz.out; show k ≠ w0.heap.size; omega)))).ints', ((HWB.out.trans (HB2.out.mono HWB.out.size)).setCell (Nat.le_refl _) _).setCell (Nat.le_refl _) _⟩
end Go.Proofs.YtihpbgjiohnekabGreat.V

namespace Go.Proofs.YtihpbgjiohnekabGreat.V
open Go.RowKit

/-- The three cells of a dice: the code, the place, the number. -/
def diceF (a : Option Addr) (n cap i : Nat) (h : Int) : Nat → Value
  | 0 => .slice a n cap
  | 1 => .int .i64 i
  | _ => .int .u64 h

/-- Block g is a dice. -/
def Dice (w : World) (g : Nat) : Prop := ∃ (a : Option Addr) (n cap i : Nat) (h : Int),
  w.rowIs g 124 3 (diceF a n cap i h) ∧ CodeAt w g a n ∧ i ≤ n

theorem dice_num {w : World} {g T : Nat} {a : Option Addr} {n cap i : Nat} {h : Int} (hr : w.rowIs g T 3 (diceF a n cap i h)) (h' : Int) : (w.setCell ⟨g, 2, none⟩ (.int .u64 h')).rowIs g T 3 (diceF a n cap i h') :=
  (hr.set 2 _).congr (fun j hj => by
    match j, hj with
    | 0, _ => rfl
    | 1, _ => rfl
    | 2, _ => rfl)
theorem dice_at {w : World} {g T : Nat} {a : Option Addr} {n cap i : Nat} {h : Int} (hr : w.rowIs g T 3 (diceF a n cap i h)) (i' : Nat) (v : Int) (hv : v = (i' : Int)) : (w.setCell ⟨g, 1, none⟩ (.int .i64 v)).rowIs g T 3 (diceF a n cap i' h) :=
  (hr.set 1 _).congr (fun j hj => by
    subst hv
    match j, hj with
    | 0, _ => rfl
    | 1, _ => rfl
    | 2, _ => rfl)

theorem u64_ge (z : Int) : 0 ≤ IntKind.u64.wrap z ∧ IntKind.u64.wrap z ≤ 18446744073709551615 := by rw [IntKind.wrap_u64]; omega

theorem dice_x (s2 : Int) (h0 : 0 ≤ s2) (h1 : s2 ≤ 18446744073709551615) : 0 ≤ wrap64 (bits BinOp.and IntKind.u64 (s2 / 8589934592) 16777215) ∧ wrap64 (bits BinOp.and IntKind.u64 (s2 / 8589934592) 16777215) ≤ 16777215 := by
  have h := bits_mask .u64 63 (by decide) ConcN.wraps_u64_63 24 (by decide) (s2 / 8589934592) (by omega) (by omega)
  have e : ((2 : Int) ^ 24 - 1) = 16777215 := by decide
  have e2 : ((2 : Int) ^ 24) = 16777216 := by decide
  rw [e, e2] at h
  rw [h, IntWalk.wrap64_in _ (by omega)]
  omega

set_option maxRecDepth 100000 in
set_option maxHeartbeats 1000000 in
theorem roll (a : Option Addr) (n cap : Nat) (s : Int) (w : World) (h : Bytes w a n) :
    Calls Tryz.prog 62 #[.slice a n cap, .int .u64 s] w fun e w' => e = .returned (.pointer (some ⟨w.heap.size, 0, none⟩)) ∧ Dice w' w.heap.size ∧ Below w.heap.size w w' := by
  have HB := Lib.hid h
  obtain ⟨hm, hcode⟩ := h
  unfold maxLen at hm
  have hst : ∀ h : Int, (w.alloc (.cells #[.slice a n cap, .int .i64 0, .int .u64 h] 124)).rowIs w.heap.size 124 3 (diceF a n cap 0 h) := fun h =>
    World.rowIs_alloc w _ _ _ (fun i hi => by
      match i, hi with
      | 0, _ => rfl
      | 1, _ => rfl
      | 2, _ => rfl)
  have HST := Lib.hid hst
  clear hst
  go_enter Tryz.func62, Tryz.ntmps62
  go_wp2
  go_loopw [6] (fun i wr => ∃ (k : Nat) (h : Int), k ≤ n ∧ i = .int .i64 k ∧ wr.rowIs w.heap.size 124 3 (diceF a n cap 0 h) ∧ Below w.heap.size w wr) (fun i _ => n - (intOf i).toNat)
  case atStart => exact ⟨0, _, Nat.zero_le _, rfl, HST.out _, b_alloc _ _⟩
  case round =>
    obtain ⟨k, h, hk, rfl, hrow, hb⟩ := hrel
    clear HST
    have HR := Lib.hid hrow
    have HBW := Lib.hid hb
    by_cases hlt : k < n
    · rcases hcode with h0 | ⟨b, off, rfl, hbl, hc⟩
      · omega
      obtain ⟨x, x1, x2, hx⟩ := hc k hlt
      have hx' : wr.cell? ⟨b, off + k, none⟩ = some (.int .u8 x) := by rw [hb.cell (p := ⟨b, off + k, none⟩) hbl]; exact hx
      have c2 : wr.cell? ⟨w.heap.size, 2, none⟩ = some (.int .u64 h) := hrow.cell (i := 2) (by omega)
      have f2 := hrow.frozen 2
      have hki : (k : Int) < (n : Int) := by omega
      clear hc hx hrow hb
      go_wp2
      go_still_tail 15, (by kernel_rfl)
      change wpList _ _ _ _ _ wr.drew
      go_wp2
      first
        | exact ⟨⟨k + 1, _, by omega, by go_num, dice_num (w := wr.drew) HR.out _, (HBW.out.drew).setCell (Nat.le_refl _) _⟩, by simp [intOf]; omega⟩
        | (go_roundw
           case rel => exact ⟨k + 1, _, by omega, by go_num, dice_num (w := wr.drew) HR.out _, (HBW.out.drew).setCell (Nat.le_refl _) _⟩
           case measure => simp [intOf]; omega)
    · obtain rfl : k = n := by omega
      clear hrow hb hcode
      go_wp2
      go_ret
      exact ⟨rfl, ⟨a, k, cap, 0, h, HR.out, (CodeAt.below HB.out HBW.out), Nat.zero_le _⟩, HBW.out⟩

/-- What the dice hands out. -/
def DicePost (g : Nat) (n : Int) (w : World) (e : Ending) (w' : World) : Prop := ∃ x : Int, e = .returned (.int .i64 x) ∧ 0 ≤ x ∧ x < n ∧ Dice w' g ∧ Thr g w w'

theorem dice_fin {g : Nat} {n : Int} {w w2 : World} {a : Option Addr} {m cap t : Nat} {s x : Int} (hn : 1 ≤ n) (hrow : w2.rowIs g 124 3 (diceF a m cap t s)) (hc : CodeAt w g a m) (ht : t ≤ m) (hthr : Thr g w w2) : DicePost g n w (.returned (.int .i64 (x % n))) w2 :=
  ⟨_, rfl, Int.emod_nonneg _ (by omega), Int.emod_lt_of_pos _ (by omega), ⟨a, m, cap, t, s, hrow, hc.below hthr.below, ht⟩, hthr⟩

set_option maxRecDepth 100000 in
set_option maxHeartbeats 1000000 in
theorem below_ (g : Nat) (n : Int) (w : World) (h : Dice w g) (h1 : 1 ≤ n) (h2 : n ≤ 1000000) :
    Calls Tryz.prog 63 #[.pointer (some ⟨g, 0, none⟩), .int .i64 n] w (DicePost g n w) := by
  obtain ⟨a, m, cap, t, s, hrow, hcode, ht⟩ := h
  have c0 : w.cell? ⟨g, 0, none⟩ = some (.slice a m cap) := hrow.cell (i := 0) (by omega)
  have c1 : w.cell? ⟨g, 1, none⟩ = some (.int .i64 t) := hrow.cell (i := 1) (by omega)
  have c2 : w.cell? ⟨g, 2, none⟩ = some (.int .u64 s) := hrow.cell (i := 2) (by omega)
  have f0 := hrow.frozen 0
  have f1 := hrow.frozen 1
  have f2 := hrow.frozen 2
  have HR := Lib.hid hrow
  have HC := Lib.hid hcode
  have hm := hcode.1
  unfold maxLen at hm
  obtain ⟨s2, hs2⟩ : ∃ s2, IntKind.u64.wrap (IntKind.u64.wrap (s * 6364136223846793005) + 1442695040888963407) = s2 := ⟨_, rfl⟩
  have hb2 := u64_ge (IntKind.u64.wrap (s * 6364136223846793005) + 1442695040888963407)
  rw [hs2] at hb2
  have hx12 := dice_x s2 hb2.1 hb2.2
  obtain ⟨x, hx⟩ : ∃ x, wrap64 (bits BinOp.and IntKind.u64 (s2 / 8589934592) 16777215) = x := ⟨_, rfl⟩
  rw [hx] at hx12
  obtain ⟨x1, x2⟩ := hx12
  have s20 := hb2.1
  clear hb2 hrow
  by_cases htm : t < m
  · obtain ⟨-, hcode⟩ := hcode
    rcases hcode with h0 | ⟨b, off, rfl, hbg, hc⟩
    · omega
    obtain ⟨y, y1, y2, hcy⟩ := hc t htm
    have hne : ¬ b = g := by omega
    have hti : (t : Int) < (m : Int) := by omega
    have ht0 : 0 ≤ (t : Int) + 1 := by omega
    clear hc
    go_enter Tryz.func63, Tryz.ntmps63
    go_wp2
    go_quiet (fail)
    go_wp2
    go_quiet (fail)
    go_wp2
    go_ret
    exact dice_fin h1 (dice_at (w := (w.setCell ⟨g, 2, none⟩ (.int .u64 s2)).drewN _) (dice_num HR.out s2) (t + 1) _ (by omega)) HC.out (by omega) ((((Thr.refl g w).setCell _).drewN _).setCell _)
  · obtain rfl : t = m := by omega
    clear hcode
    go_enter Tryz.func63, Tryz.ntmps63
    go_wp2
    go_quiet (fail)
    go_wp2
    go_ret
    exact dice_fin h1 (dice_num HR.out s2) HC.out (by omega) (((Thr.refl g w).setCell _).drewN _)
theorem Dice.then {g : Nat} {w w' : World} {B : Nat} (h : Dice w g) (hb : Below B w w') (hg : g < B) : Dice w' g := by
  obtain ⟨a, n, cap, i, x, h1, h2, h3⟩ := h
  exact ⟨a, n, cap, i, x, h1.of_block (hb.block g hg), h2.below (hb.mono (Nat.le_of_lt hg)), h3⟩
end Go.Proofs.YtihpbgjiohnekabGreat.V

namespace Go.Proofs.YtihpbgjiohnekabGreat
namespace M
theorem eig_law {R : List (List Int)} (h : (eigRes R).2.2 = 0) : eigB R (eigRes R).2.1.1 (eigRes R).2.1.2 (eigRes R).1 = true ∧
    ∀ g : Int, -25 ≤ g → g ≤ 25 → (shvRes (eigRes R).1 g).2 = 3 ∨ ((shvRes (eigRes R).1 g).2 = 0 ∧ eigB R (eigRes R).2.1.1 (eigRes R).2.1.2 (shvRes (eigRes R).1 g).1 = true) := by
  unfold eigRes at h ⊢
  by_cases h1 : (cycMeanRes R).2 = 0
  · rw [if_pos h1] at h ⊢
    unfold eigOk at h ⊢
    by_cases h2 : isVec (eigL R) = true
    · rw [if_pos h2]
      have he : eigB R (bestR (ent R) R.length).1 (bestR (ent R) R.length).2 (eigL R) = true := eig_self h1 h2
      refine ⟨he, fun g g1 g2 => ?_⟩
      have hf : isFin g = true := by unfold isFin; simp; omega
      show (shvRes (eigL R) g).2 = 3 ∨ ((shvRes (eigL R) g).2 = 0 ∧ eigB R (bestR (ent R) R.length).1 (bestR (ent R) R.length).2 (shvRes (eigL R) g).1 = true)
      unfold shvRes
      rw [if_pos h2, if_pos hf]
      by_cases hv : isVec (shvL (eigL R) g) = true
      · rw [if_pos hv]
        exact .inr ⟨rfl, eig_shift he hf hv⟩
      · rw [if_neg hv]
        exact .inl rfl
    · rw [if_neg h2] at h; simp at h
  · rw [if_neg h1] at h; exact absurd h h1
end M
end Go.Proofs.YtihpbgjiohnekabGreat
