/- Texts laid together: Duo, Dxd. -/
import Derived.Test.YtmobcobdpemlnaaQa19
import Derived.Test.YtmobcobdpemlnaaQa14
import Derived.Test.YtmobcobdpemlnaaQa17
set_option linter.unusedSimpArgs false
set_option linter.unusedVariables false
set_option linter.unusedSectionVars false
namespace Go.Proofs.Ytmobcobdpemlnaa
namespace M
theorem dualRes_len (R : List (List Int)) : (dualRes R).1.length ≤ 10 ∧ (dualRes R).2.1.length ≤ 10 := by
  unfold dualRes
  cases hs : sqB R with
  | false => simp
  | true =>
    have h1 := (sq_is hs).1
    by_cases hb : (perm R).1 = -1000000000000000
    · simp [hb]
    · cases h2 : (isVec (dualU R) && isVec (dualV R R.length)) with
      | false => simp [hb]
      | true =>
        simp only [if_true, if_neg hb]
        refine ⟨?_, by rw [dualV_len]; exact h1⟩
        unfold dualU
        rw [zp_len]
        exact h1
end M
namespace V
set_option maxRecDepth 100000
open Go.RowKit
theorem big_wid {x : Int} (h : M.Sm 1000000 x) : Wid x := by
  unfold Wid
  rcases h with e | e
  · omega
  · omega
theorem bt {a b c : World} (h1 : Below a.heap.size a b) (h2 : Below b.heap.size b c) : Below a.heap.size a c := h1.trans (h2.mono h1.size)
set_option maxRecDepth 100000 in
set_option maxHeartbeats 4000000 in
theorem dualOf (a : Option Addr) (n cap : Nat) (R : List (List Int)) (w : World) (h : Mat w a n R) :
    Calls Try.prog 13 #[.slice a n cap] w (DPost (M.dualRes R) w) := by
  have HA := Lib.hid h
  have HBa : ∀ r : List Int × Int, r = M.asgRes R → Calls Try.prog 34 #[.slice a n cap] w (VRes r w) := fun r hr => by rw [hr]; exact bestAssignment a n cap R w h
  by_cases hs : M.sqB R = true
  · by_cases hbot : (M.perm R).1 = -1000000000000000
    · have HE : Hid (M.dualRes R = ([], [], 4)) := by show _ = _; unfold M.dualRes; rw [if_pos hs, if_pos hbot]
      have HC := Lib.hid (HBa ([], 4) (by unfold M.asgRes; rw [if_pos hs, if_pos hbot]))
      unfold VRes at HC
      clear h hs hbot HBa
      go_enter Try.func13, Try.ntmps13
      go_wp2_with fail
      refine (HC.out).mono ?_
      rintro e w1 ⟨a1, m1, c1, rfl, ho1, hb1⟩
      have HB := Lib.hid hb1
      clear ho1 hb1
      go_wp2
      exact bodyPost_ret (v := .tuple #[.slice none 0 0, .slice none 0 0, .int .i64 4]) (by simp [results, Try.results13, go_sem]) rfl (DPost.nil HE.out HB.out)
    · obtain ⟨hr, n1, n3⟩ := rect_sq hs h.1
      have hn := h.1
      have hq := M.sq_is hs
      have hbst := M.bst_of hq hbot
      have HC := Lib.hid (HBa (M.asg R, 0) (by unfold M.asgRes; rw [if_pos hs, if_neg hbot]))
      unfold VRes at HC
      have HR := Lib.hid hr
      have hmk := run_make_row' (P := Try.prog) 26 2 (.int .i64 0) 8 Try.underlying26 info64 rfl .i64 .i64 n (by omega) (by omega)
      have HCol : Hid (∀ k, k < n → (M.asg R).getD k 0 = (M.colsP R k : Int) ∧ M.colsP R k < n ∧ -1000000 ≤ M.ent R k (M.colsP R k) ∧ M.ent R k (M.colsP R k) ≤ 1000000) := fun k hk => by
        have := hbst.col k (by omega)
        rw [hn] at this
        exact ⟨this.2.1, this.1, this.2.2⟩
      have HRel : Hid (∀ w2 a' c', Below w.heap.size w w2 → Ints .i64 w2 a' n (M.asg R) → Calls Try.prog 44 #[.slice a n cap, .slice a' n c'] w2 (MPost n (M.mk n n (M.relF R (M.colsP R))) w2)) := fun w2 a' c' hb hI =>
        relativeTo a n cap R a' c' (M.asg R) (M.colsP R) w2 (h.below hb) hr n1 n3 hI HCol.out (fun i j hi hj => big_wid (hq.2 i (by omega) j (by omega)))
      have HNp : M.noPos (M.ent (M.mk n n (M.relF R (M.colsP R)))) n = true := by rw [M.noPos_mk, ← hn]; exact hbst.noP
      have HUd : M.applyM (M.starM (M.mk n n (M.relF R (M.colsP R))) n) (M.zerosL n) = M.dualU R := by unfold M.dualU M.zpot; rw [hn]
      have HFix : Hid (∀ r : List Int × Int, r = (if M.isVec (M.dualU R) then (M.dualU R, 0) else ([], 3)) → ∀ w2 a2 c2 a' c', Mat w2 a2 n (M.mk n n (M.relF R (M.colsP R))) → Ints .i64 w2 a' n (M.zerosL n) → Calls Try.prog 43 #[.slice a2 n c2, .slice a' n c'] w2 (VRes r w2)) := fun r hr w2 a2 c2 a' c' hM hI => by
        have := leastFixedPoint a2 n c2 (M.mk n n (M.relF R (M.colsP R))) a' c' (M.zerosL n) w2 ⟨hM, rect_mk _ _ _, fun i j hi hj => by rw [M.ent_mk _ _ _ _ _ hi hj]; exact M.sm_up (hbst.sm i j (by omega) (by omega)) (by omega), n1, n3⟩ hI (fun k _ => by rw [M.zeros_at]; exact .inr (by omega))
        unfold M.lfpL at this
        rw [if_pos HNp, HUd] at this
        rw [hr]
        exact this
      have HU0 : Hid (∀ i, i < n → 0 ≤ (M.dualU R).getD i 0 ∧ (M.dualU R).getD i 0 ≤ 11000011000000) := fun i hi => M.dualU_nb hq hbst (by omega)
      have HZm : Hid (((List.range n).map fun _ => (0 : Int)) = M.zerosL n) := M.zeros_made n
      have HZa : Hid (∀ w2 : World, Ints .i64 (w2.alloc (.cells (madeCells #[.int .i64 0] n) 2)) (some ⟨w2.heap.size, 0, none⟩) n (M.zerosL n)) := fun w2 => by
        rw [← HZm.out]; exact (own_made w2 w2.heap.size n (Nat.le_refl _) (by unfold maxLen; omega)).ints'
      have HAs : Hid ((M.asg R).length = n) := by show _ = _; rw [M.asg_len, hn]
      have HUl : Hid ((M.dualU R).length = n) := by show _ = _; unfold M.dualU; rw [M.zp_len, hn]
      cases hu : M.isVec (M.dualU R) with
      | false =>
        have HE : Hid (M.dualRes R = ([], [], 3)) := by show _ = _; unfold M.dualRes; rw [if_pos hs, if_neg hbot, hu]; rfl
        have HF := Lib.hid (HFix.out ([], 3) (by rw [hu]; rfl))
        unfold MPost at HRel
        unfold VRes at HF
        clear h hs hbot HBa hr hn hq hbst HNp HUd HFix hu
        go_enter Try.func13, Try.ntmps13
        go_wp2_with fail
        refine (HC.out).mono ?_
        rintro e w1 ⟨a1, m1, c1, rfl, ho1, hb1⟩
        obtain rfl : m1 = n := by have := ho1.len; rw [HAs.out] at this; exact this
        have HO1 := Lib.hid ho1.ints'
        have HB1 := Lib.hid hb1
        clear ho1 hb1
        go_wp2
        go_region_with (first | (go_at_call 44; refine (HRel.out _ _ _ ?hbw ?hiw).mono ?_; (case hbw => first | exact bt HB1.out (b_draws w1 1) | exact bt HB1.out (below_drewN (b_alloc w1 _) 1)); (case hiw => first | exact HO1.out.below (b_draws w1 1) | exact HO1.out.below (below_drewN (b_alloc w1 _) 1)); rintro e w2 ⟨a2, c2, rfl, ho2, hb2⟩; have HM2 := Lib.hid ho2.mat; have HB2 := Lib.hid hb2; clear ho2 hb2) | (go_at_call 43; refine (HF.out _ _ _ _ _ ?hm ?hz).mono ?_; (case hm => first | exact HM2.out | exact HM2.out.below (b_alloc w2 _)); (case hz => first | exact HZa.out w2 | exact ((HZa.out w1).below (b_draws _ 1)).below HB2.out); rintro e w3 ⟨a3, m3, c3, rfl, ho3, hb3⟩; have HB3 : Hid (Below w.heap.size w w3) := (by first | exact bt (bt (bt (bt HB1.out (b_draws w1 1)) HB2.out) (b_alloc w2 _)) hb3 | exact bt (bt (bt HB1.out (below_drewN (b_alloc w1 _) 1)) HB2.out) hb3); have HI3 : Hid (Ints .i64 w3 a1 m1 (M.asg R)) := (by first | exact (((HO1.out.below (b_draws w1 1)).below HB2.out).below (b_alloc w2 _)).below hb3 | exact ((HO1.out.below (below_drewN (b_alloc w1 _) 1)).below HB2.out).below hb3); have HU3 := Lib.hid (ho3.mono (show w.heap.size ≤ _ by first | exact (bt (bt (bt HB1.out (b_draws w1 1)) HB2.out) (b_alloc w2 _)).size | exact (bt (bt HB1.out (below_drewN (b_alloc w1 _) 1)) HB2.out).size)); clear ho3 hb3))
        all_goals
          go_wp2
          exact bodyPost_ret (v := .tuple #[.slice none 0 0, .slice none 0 0, .int .i64 3]) (by simp [results, Try.results13, go_sem]) rfl (DPost.nil HE.out HB3.out)
      | true =>
        have HEt : Hid (M.isVec (M.dualV R n) = true → M.dualRes R = (M.dualU R, M.dualV R n, 0)) := fun q => by unfold M.dualRes; rw [if_pos hs, if_neg hbot, hn, hu, q]; rfl
        have HEf : Hid (M.isVec (M.dualV R n) = false → M.dualRes R = ([], [], 3)) := fun q => by unfold M.dualRes; rw [if_pos hs, if_neg hbot, hn, hu, q]; rfl
        have HF := Lib.hid (HFix.out (M.dualU R, 0) (by rw [hu]; rfl))
        have HVs : Hid (∀ m, M.dualV R (m + 1) = (M.dualV R m).set (M.colsP R m) (M.ent R m (M.colsP R m) - (M.dualU R).getD m 0)) := fun m => rfl
        have HV0 : Hid (M.dualV R 0 = M.zerosL n) := by show _ = _; unfold M.dualV M.zerosL; rw [hn]
        unfold MPost at HRel
        unfold VRes at HF
        clear h hs hbot HBa hr hn hq hbst HNp HUd HFix hu
        go_enter Try.func13, Try.ntmps13
        go_wp2_with fail
        refine (HC.out).mono ?_
        rintro e w1 ⟨a1, m1, c1, rfl, ho1, hb1⟩
        obtain rfl : m1 = n := by have := ho1.len; rw [HAs.out] at this; exact this
        have HO1 := Lib.hid ho1.ints'
        have HB1 := Lib.hid hb1
        clear ho1 hb1
        go_wp2
        go_region_with (first | (go_at_call 44; refine (HRel.out _ _ _ ?hbw ?hiw).mono ?_; (case hbw => first | exact bt HB1.out (b_draws w1 1) | exact bt HB1.out (below_drewN (b_alloc w1 _) 1)); (case hiw => first | exact HO1.out.below (b_draws w1 1) | exact HO1.out.below (below_drewN (b_alloc w1 _) 1)); rintro e w2 ⟨a2, c2, rfl, ho2, hb2⟩; have HM2 := Lib.hid ho2.mat; have HB2 := Lib.hid hb2; clear ho2 hb2) | (go_at_call 43; refine (HF.out _ _ _ _ _ ?hm ?hz).mono ?_; (case hm => first | exact HM2.out | exact HM2.out.below (b_alloc w2 _)); (case hz => first | exact HZa.out w2 | exact ((HZa.out w1).below (b_draws _ 1)).below HB2.out); rintro e w3 ⟨a3, m3, c3, rfl, ho3, hb3⟩; have HB3 : Hid (Below w.heap.size w w3) := (by first | exact bt (bt (bt (bt HB1.out (b_draws w1 1)) HB2.out) (b_alloc w2 _)) hb3 | exact bt (bt (bt HB1.out (below_drewN (b_alloc w1 _) 1)) HB2.out) hb3); have HI3 : Hid (Ints .i64 w3 a1 m1 (M.asg R)) := (by first | exact (((HO1.out.below (b_draws w1 1)).below HB2.out).below (b_alloc w2 _)).below hb3 | exact ((HO1.out.below (below_drewN (b_alloc w1 _) 1)).below HB2.out).below hb3); have HU3 := Lib.hid (ho3.mono (show w.heap.size ≤ _ by first | exact (bt (bt (bt HB1.out (b_draws w1 1)) HB2.out) (b_alloc w2 _)).size | exact (bt (bt HB1.out (below_drewN (b_alloc w1 _) 1)) HB2.out).size)); clear ho3 hb3))
        all_goals
          obtain rfl : m3 = m1 := by have := HU3.out.len; rw [HUl.out] at this; exact this
          have HV3 : Hid (Own (w3.alloc (.cells (madeCells #[.int .i64 0] m3) 2)) w3.heap.size (.slice (some ⟨w3.heap.size, 0, none⟩) m3 m3) (M.dualV R 0)) := by
            rw [HV0.out, ← HZm.out]; exact own_made w3 _ m3 (Nat.le_refl _) (by unfold maxLen; omega)
          have HW3 : Hid (Below w3.heap.size w3 (w3.alloc (.cells (madeCells #[.int .i64 0] m3) 2))) := b_alloc w3 _
          go_wp2
          go_loopw [37] (fun kv wr => ∃ k : Nat, k ≤ m3 ∧ kv = .int .i64 k ∧ Hid (Own wr w3.heap.size (.slice (some ⟨w3.heap.size, 0, none⟩) m3 m3) (M.dualV R k)) ∧ Hid (Below w3.heap.size w3 wr)) (fun kv _ => m3 - (intOf kv).toNat)
          case atStart => exact ⟨0, Nat.zero_le _, rfl, HV3, HW3⟩
          case round =>
            obtain ⟨k, hk, rfl, HO, HBk⟩ := hrel
            obtain ⟨wo, rfl⟩ : ∃ x, x = wr := ⟨_, rfl⟩
            clear HV3 HW3
            by_cases hkl : k < m3
            · have hki : (k : Int) < (m3 : Int) := by omega
              obtain ⟨q1, q2, q3, q4⟩ := HCol.out k hkl
              obtain ⟨pb, po, x0, rfl, -, hx0, hcx⟩ := (HI3.out.below HBk.out).at k hkl
              rw [q1] at hx0
              subst hx0
              have hu0 := HU0.out k hkl
              have hNx := HVs.out k
              obtain ⟨ub, uo, y, rfl, -, hy, hcy⟩ := (HU3.out.ints'.below HBk.out).at k hkl
              rw [← hy] at hu0 hNx
              obtain ⟨j, hj⟩ : ∃ j, j = M.colsP R k := ⟨_, rfl⟩
              rw [← hj] at q2 q3 q4 hNx hcx
              obtain ⟨ab, ao, rb, ro, rc, x, rfl, hx, ca, cx⟩ := ((HA.out.below HB3.out).below HBk.out).rect_ent HR.out k j hkl q2
              rw [← hx] at q3 q4 hNx
              have hji : (j : Int) < (m3 : Int) := by omega
              have hsub : wrap64 (x - y) = x - y := IntWalk.wrap64_in _ ⟨by omega, by omega⟩
              have v0 := HO.out.cellAt j q2
              have v1 := HO.out.frozenAt j
              have HN : Hid (Own (wo.setCell ⟨w3.heap.size, j, none⟩ (.int .i64 (x - y))).drew w3.heap.size (.slice (some ⟨w3.heap.size, 0, none⟩) m3 m3) (M.dualV R (k + 1))) := by
                rw [hNx]; exact HO.out.set j (x - y)
              have HBn : Hid (Below w3.heap.size w3 (wo.setCell ⟨w3.heap.size, j, none⟩ (.int .i64 (x - y))).drew) := below_drewN (HBk.out.setCell (Nat.le_refl _) _) 1
              clear hNx hy hx hj q1
              go_wp2
              go_region
              all_goals
                go_wp2
                go_roundw
                case rel => exact ⟨k + 1, by omega, by go_num, HN, HBn⟩
                case measure => simp [intOf]; omega
            · obtain rfl : k = m3 := by omega
              cases hv : M.isVec (M.dualV R k) with
              | true =>
                have HE := Lib.hid (HEt.out hv)
                have HP := Lib.hid hv
                clear hv
                go_wp2_with (go_at_call 45; refine (isVector_b _ _ _ _ _ true HP.out HO.out.ints').mono ?_; rintro e w' ⟨rfl, rfl⟩)
                refine bodyPost_ret (v := .tuple #[.slice a3 k c3, .slice (some ⟨w3.heap.size, 0, none⟩) k k, .int .i64 0]) (by simp [results, Try.results13, go_sem]) rfl ?_
                rw [HE.out]
                exact ⟨w3, _, _, _, _, _, _, rfl, HU3.out, HB3.out, HO.out, HBk.out⟩
              | false =>
                have HE := Lib.hid (HEf.out hv)
                have HP := Lib.hid hv
                clear hv
                go_wp2_with (go_at_call 45; refine (isVector_b _ _ _ _ _ false HP.out HO.out.ints').mono ?_; rintro e w' ⟨rfl, rfl⟩)
                exact bodyPost_ret (v := .tuple #[.slice none 0 0, .slice none 0 0, .int .i64 3]) (by simp [results, Try.results13, go_sem]) rfl (DPost.nil HE.out (bt HB3.out HBk.out))
  · have HE : Hid (M.dualRes R = ([], [], 1)) := by show _ = _; unfold M.dualRes; rw [if_neg hs]
    have HC := Lib.hid (HBa ([], 1) (by unfold M.asgRes; rw [if_neg hs]))
    unfold VRes at HC
    clear h hs HBa
    go_enter Try.func13, Try.ntmps13
    go_wp2_with fail
    refine (HC.out).mono ?_
    rintro e w1 ⟨a1, m1, c1, rfl, ho1, hb1⟩
    have HB := Lib.hid hb1
    clear ho1 hb1
    go_wp2
    exact bodyPost_ret (v := .tuple #[.slice none 0 0, .slice none 0 0, .int .i64 1]) (by simp [results, Try.results13, go_sem]) rfl (DPost.nil HE.out HB.out)
end V
end Go.Proofs.Ytmobcobdpemlnaa

namespace Go.Proofs.Ytmobcobdpemlnaa.V
set_option maxRecDepth 100000
open Go.RowKit
/-- A drawn matrix and two drawn lists. -/
def DrawnMSS (w : World) (e : Ending) (w' : World) : Prop :=
  ∃ (a : Option Addr) (n cap : Nat) (R : List (List Int)) (a1 : Option Addr) (n1 c1 : Nat) (u : List Int) (a2 : Option Addr) (n2 c2 : Nat) (v : List Int),
    e = .returned (.tuple #[.slice a n cap, .slice a1 n1 c1, .slice a2 n2 c2]) ∧ Mat w' a n R ∧ (Ints .i64 w' a1 n1 u ∧ n1 ≤ c1 ∧ c1 ≤ maxLen) ∧ (Ints .i64 w' a2 n2 v ∧ n2 ≤ c2 ∧ c2 ≤ maxLen) ∧ Below w.heap.size w w'
/-- The two lists of a dual while the source draws. -/
def DU (g B C : Nat) (x y : Value) (u v : List Int) (w0 w : World) : Prop := Own w B x u ∧ Own w C y v ∧ Src w g ∧ Thr g w0 w
theorem DU.next {g B C : Nat} {x y : Value} {u v : List Int} {w0 w w' : World} (h : DU g B C x y u v w0 w) (hB : g < B) (hC : g < C) (hs : Src w' g) (ht : Thr g w w') : DU g B C x y u v w0 w' :=
  ⟨h.1.thr ht hB, h.2.1.thr ht hC, hs, h.2.2.2.trans ht⟩
theorem DU.drew {g B C : Nat} {x y : Value} {u v : List Int} {w0 w : World} (h : DU g B C x y u v w0 w) : DU g B C x y u v w0 w.drew :=
  ⟨h.1.keep (fun _ _ _ => rfl), h.2.1.keep (fun _ _ _ => rfl), h.2.2.1, h.2.2.2.drew⟩
theorem DU.store {g B C q n c : Nat} {y : Value} {u v : List Int} {w0 w : World} (h : DU g B C (.slice (some ⟨q, 0, none⟩) n c) y u v w0 w) (hg : g < w0.heap.size) (hB : w0.heap.size ≤ B) (hq : B ≤ q) (hqC : q < C) (i : Nat) (x : Int) :
    DU g B C (.slice (some ⟨q, 0, none⟩) n c) y (u.set i x) v w0 (w.setCell ⟨q, i, none⟩ (.int .i64 x)) := by
  refine ⟨h.1.set i x, h.2.1.keep (fun k h1 _ => Below.heap_setCell _ _ _ _ (by show k ≠ q; omega)), h.2.2.1.below ?_, ?_⟩
  · exact (Below.refl _ _).setCell (p := ⟨q, i, none⟩) (by show g + 1 ≤ q; omega) _
  · refine ⟨h.2.2.2.below.setCell (p := ⟨q, i, none⟩) (by show g ≤ q; omega) _, fun k h1 h2 => ?_⟩
    rw [Below.heap_setCell _ _ _ _ (by show k ≠ q; omega)]
    exact h.2.2.2.other k h1 h2
theorem du_keep {g B C k q : Nat} {x y val : Value} {u v : List Int} {w0 w' wx : World} (h : w'.cell? ⟨q, k, none⟩ = some val ∧ w'.frozen? ⟨q, k, none⟩ = false ∧ DU g B C x y u v w0 w') (hB : g < B) (hC : g < C) (hq : g < q) (hs : Src wx g) (ht : Thr g w' wx) :
    wx.cell? ⟨q, k, none⟩ = some val ∧ wx.frozen? ⟨q, k, none⟩ = false ∧ DU g B C x y u v w0 wx := by
  obtain ⟨h1, h3, h4⟩ := h
  have l1 := cell_lt h1
  refine ⟨?_, ?_, h4.next hB hC hs ht⟩
  · rw [ht.cell (p := ⟨q, k, none⟩) l1 (by show q ≠ g; omega)]; exact h1
  · rw [ht.frozen (p := ⟨q, k, none⟩) l1 (by show g < q; omega)]; exact h3
theorem mss_of {w w1 w2 w' : World} {B C n cap m1 c1 m2 c2 : Nat} {a b1 b2 : Option Addr} {R : List (List Int)} {u v : List Int} (h : DU w.heap.size B C (.slice b1 m1 c1) (.slice b2 m2 c2) u v w2 w') (ho : OwnM w2 w1.heap.size (.slice a n cap) R) (hg : w.heap.size < w1.heap.size) (hb : Below w.heap.size w w2) :
    DrawnMSS w (.returned (.tuple #[.slice a n cap, .slice b1 m1 c1, .slice b2 m2 c2])) w' :=
  ⟨_, _, _, R, _, _, _, u, _, _, _, v, rfl, (ho.thr h.2.2.2 hg).mat, ⟨h.1.ints', caps_own h.1⟩, ⟨h.2.1.ints', caps_own h.2.1⟩, hb.trans h.2.2.2.below⟩
set_option maxRecDepth 100000 in
set_option maxHeartbeats 4000000 in
theorem drawIsDual (a : Option Addr) (n cap : Nat) (w : World) (h : Bytes w a n) :
    Calls Try.prog 15 #[.slice a n cap] w (DrawnMSS w) := by
  have HB := Lib.hid h
  clear h
  go_enter Try.func15, Try.ntmps15
  go_wp2_with fail
  refine (from_ _ _ _ _ HB.out).mono ?_
  rintro e w1 ⟨rfl, hs1, hb1⟩
  have HS1 := Lib.hid hs1
  have HB1 := Lib.hid hb1
  have hg1 := hs1.lt
  clear hs1 hb1
  go_wp2_with fail
  refine (drawSquareB _ _ HS1.out).mono ?_
  rintro e w2 ⟨a2, n2, c2, R, rfl, hn200, ho, hs2, ht2⟩
  have HO2 := Lib.hid ho
  have HS2 := Lib.hid hs2
  have HB2 := Lib.hid (HB1.out.trans ht2.below)
  have hg2 := hs2.lt
  have HLn : Hid (n2 = R.length) := ho.len
  clear ho hs2 ht2
  go_wp2_with fail
  refine (sDualOf _ _ _ R _ HO2.out.mat).mono ?_
  rintro e w3 ⟨wm, b1, m1, e1, b2, m2, e2, rfl, ho1, hbm, ho2, hb3⟩
  obtain ⟨r, hr⟩ : ∃ r, r = M.dualRes R := ⟨_, rfl⟩
  rw [← hr] at ho1 ho2
  simp only [← hr]
  obtain ⟨u, v, cd⟩ := r
  have HR := Lib.hid hr.symm
  clear hr
  have hzm : w2.heap.size ≤ wm.heap.size := hbm.size
  have hz3 : wm.heap.size ≤ w3.heap.size := hb3.size
  have hb23 : Below w2.heap.size w2 w3 := hbm.trans (hb3.mono hzm)
  have HD : Hid (DU w.heap.size w2.heap.size wm.heap.size (.slice b1 m1 e1) (.slice b2 m2 e2) u v w2 w3) :=
    ⟨ho1.below hb3, ho2, HS2.out.below (hb23.mono (show w.heap.size + 1 ≤ w2.heap.size from hg2)), Thr.of_below (g := w.heap.size) hb23 (Nat.le_of_lt hg2)⟩
  have HQ1 : Hid (∀ q, b1 = some ⟨q, 0, none⟩ → 0 < m1 → w2.heap.size ≤ q ∧ q < wm.heap.size) := fun q hq hm => by
    obtain ⟨a', c', hv, -, -, hg⟩ := own_form ho1
    injection hv with q1 q2 q3
    subst q1 q2
    obtain ⟨g, hg1, hg2, hg3⟩ := hg hm
    rw [hq] at hg1
    injection hg1 with hg1
    injection hg1 with hg1
    subst hg1
    exact ⟨hg2, hg3⟩
  clear ho1 ho2 hbm hb3 hb23
  by_cases hc : cd = 0
  · subst hc
    obtain ⟨hdu, -, hul, hvl⟩ := M.dual_told HR.out
    have hsq : M.sqB R = true := by
      unfold M.dualB at hdu
      rw [Bool.and_eq_true, Bool.and_eq_true, Bool.and_eq_true] at hdu
      exact hdu.1.1.1
    obtain ⟨-, -, -, n1, -⟩ := sq_of HO2.out.mat hsq
    have hm1 : m1 = n2 := by rw [HD.out.1.len, HLn.out]; exact hul
    clear hdu hsq hul hvl HR
    subst hm1
    obtain ⟨q, rfl⟩ : ∃ q, b1 = some ⟨q, 0, none⟩ := by
      obtain ⟨a', c', hv, -, -, hg⟩ := own_form HD.out.1
      injection hv with q1 q2 q3
      obtain ⟨g, hg1, -⟩ := hg (by omega)
      exact ⟨g, by rw [q1, hg1]⟩
    obtain ⟨hq1, hq2⟩ := HQ1.out q rfl (by omega)
    clear HQ1
    go_wp2_with fail
    refine (next _ 2 _ (by decide) HD.out.2.2.1).mono ?_
    rintro e w4 ⟨y, rfl, -, -, hs4, ht4⟩
    have HD4 := Lib.hid (HD.out.next hg2 (by omega) hs4 ht4)
    clear hs4 ht4 HD
    by_cases hy0 : y = 0
    · subst hy0
      have hwt : (Lit.int .i64 (m1 : Int)).wf = true := wf_small _ (by omega) (by omega)
      go_wp2_with fail
      refine (next _ (m1 : Int) _ hwt HD4.out.2.2.1).mono ?_
      rintro e w5 ⟨z, rfl, hz1, hz2, hs5, ht5⟩
      have HD5 := Lib.hid (HD4.out.next hg2 (by omega) hs5 ht5)
      clear hs5 ht5 HD4
      obtain ⟨k, rfl⟩ := Int.eq_ofNat_of_zero_le hz1
      have hk : k < m1 := by omega
      have hul : u.length = m1 := HD5.out.1.len.symm
      have hou := HD5.out.1
      rw [← hul] at hou
      have hk2 : k < u.length := by omega
      have hc5 : w5.cell? ⟨q, k, none⟩ = some (.int .i64 (u.getD k 0)) := by
        rw [World.ownsRow.cellAt hou k (by omega)]
        simp [hk2]
      have hf5 : w5.frozen? ⟨q, k, none⟩ = false := World.ownsRow.frozenAt hou k
      clear hou hk2
      generalize u.getD k 0 = x at hc5
      have HD6 := Lib.hid HD5.out.drew
      clear hz1 hz2 hul
      go_wp2
      go_region_with (first | (go_at_call 55; refine (next _ 5 _ (by decide) HD6.out.2.2.1).mono ?_; rintro e wx ⟨xx, rfl, hxx, -, hs, ht⟩; obtain ⟨c5x, f5x, hdx⟩ := du_keep (w' := w5.drew) ⟨hc5, hf5, HD6.out⟩ hg2 (by omega) (by omega) hs ht; have HDX := Lib.hid hdx; clear hs ht hdx))
      all_goals
        go_wp2
        go_ret3
        exact mss_of (HDX.out.store hg2 (Nat.le_refl _) hq1 hq2 k _) HO2.out hg1 HB2.out
    · have ey : (y == 0) = false := by simpa using hy0
      go_wp2
      go_ret3
      exact ⟨_, _, _, R, _, _, _, _, _, _, _, _, rfl, (HO2.out.thr HD4.out.2.2.2 hg1).mat, ⟨HD4.out.1.ints', caps_own HD4.out.1⟩, ⟨HD4.out.2.1.ints', caps_own HD4.out.2.1⟩, HB2.out.trans HD4.out.2.2.2.below⟩
  · have ec : (cd != 0) = true := by simpa using hc
    clear HQ1 HR
    have hg3 : w.heap.size < w3.heap.size := by omega
    go_wp2_with fail
    refine (drawVector _ n2 _ HD.out.2.2.1 (by omega)).mono ?_
    rintro e w4 ⟨a4, n4, c4, l4, rfl, ho4, hs4, ht4⟩
    have HO4 := Lib.hid ho4
    have HS4 := Lib.hid hs4
    have HT4 := Lib.hid (HD.out.2.2.2.trans ht4)
    clear ho4 hs4 ht4
    go_wp2_with fail
    refine (drawVector _ n2 _ HS4.out (by omega)).mono ?_
    rintro e w5 ⟨a5, n5, c5, l5, rfl, ho5, hs5, ht5⟩
    have HO5 := Lib.hid ho5
    have HO4b := Lib.hid (HO4.out.thr ht5 hg3)
    have HT5 := Lib.hid (HT4.out.trans ht5)
    clear ho5 hs5 ht5 HO4
    go_wp2
    go_ret3
    exact ⟨_, _, _, R, _, _, _, _, _, _, _, _, rfl, (HO2.out.thr HT5.out hg1).mat, ⟨HO4b.out.ints', caps_own HO4b.out⟩, ⟨HO5.out.ints', caps_own HO5.out⟩, HB2.out.trans HT5.out.below⟩
end Go.Proofs.Ytmobcobdpemlnaa.V
