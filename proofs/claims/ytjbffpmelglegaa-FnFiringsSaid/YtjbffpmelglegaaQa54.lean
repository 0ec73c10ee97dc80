/- Texts laid together: Rcj. -/
import Derived.Test.YtjbffpmelglegaaQa47
import Derived.Test.YtjbffpmelglegaaQa49
import Derived.StillTailTactics
set_option linter.unusedSimpArgs false
set_option linter.unusedVariables false
set_option linter.unusedSectionVars false
namespace Go.Proofs.Ytjbffpmelglegaa
namespace M
/-- The longest time over the first j firings that take a token of a place. -/
def hldK (F : Nat → Nat → Int) (p : Pc) : Nat → Int
  | 0 => -1
  | j + 1 => max (hldK F p j) (F (p.2.2.2.toNat + j + 1) p.2.1.toNat - F (j + 1) p.1.toNat - p.2.2.1)
def hldL (F : Nat → Nat → Int) (l : List Pc) (n k : Nat) : List Int := (List.range k).map fun i => hldK F (l.getD i pz) (n - (l.getD i pz).2.2.2.toNat)
theorem hldL_next (F : Nat → Nat → Int) (l : List Pc) (n k : Nat) : hldL F l n (k + 1) = hldL F l n k ++ [hldK F (l.getD k pz) (n - (l.getD k pz).2.2.2.toNat)] := by
  unfold hldL
  rw [List.range_succ, List.map_append]; rfl
theorem hldL_len (F : Nat → Nat → Int) (l : List Pc) (n k : Nat) : (hldL F l n k).length = k := by simp [hldL]
theorem hldK_bd {F : Nat → Nat → Int} {p : Pc} (hF : ∀ r x, 0 ≤ F r x ∧ F r x ≤ 2000000) (hp : 0 ≤ p.2.2.1 ∧ p.2.2.1 ≤ 1000) (j : Nat) : -1 ≤ hldK F p j ∧ hldK F p j ≤ 2000000 := by
  induction j with
  | zero => exact ⟨Int.le_refl _, by show (-1 : Int) ≤ 2000000; decide⟩
  | succ j ih =>
    have h1 := hF (p.2.2.2.toNat + j + 1) p.2.1.toNat
    have h2 := hF (j + 1) p.1.toNat
    show -1 ≤ max _ _ ∧ max _ _ ≤ 2000000
    omega
def hldRes (x : Int) (l : List Pc) (n : Int) : List Int × Int := if inCode (lvCode x l) (inB n 0 50) = 0 then (hldL (tabT l (ordL (wtF fOne l) x.toNat x.toNat) zst n.toNat) l n.toNat l.length, 0) else ([], inCode (lvCode x l) (inB n 0 50))
theorem hldRes_len (x : Int) (l : List Pc) (n : Int) : (hldRes x l n).1.length ≤ 30 := by
  unfold hldRes
  by_cases h : inCode (lvCode x l) (inB n 0 50) = 0
  · rw [if_pos h]
    have := (lv_zero (inCode_t h).1).1
    unfold isGr at this
    simp only [Bool.and_eq_true, decide_eq_true_eq] at this
    show (hldL _ _ _ _).length ≤ 30
    rw [hldL_len]
    exact this.2.1
  · rw [if_neg h]; simp
end M
namespace V
set_option maxRecDepth 100000
open Go.RowKit
theorem inB_nat {nI : Int} {m : Nat} (h : M.inB nI 0 m = true) : ∃ k : Nat, nI = (k : Int) ∧ k ≤ m := by
  unfold M.inB at h
  simp only [Bool.and_eq_true, decide_eq_true_eq] at h
  exact ⟨nI.toNat, by omega, by omega⟩
theorem tab_bd50 {N : Nat} {l : List M.Pc} (hg : M.isGr (N : Int) l = true) (hnp : M.noPos (M.wtF M.fOne l) N = true) {n : Nat} (hn : n ≤ 50) : ∀ r x, 0 ≤ M.tabT l (M.ordL (M.wtF M.fOne l) N N) M.zst n r x ∧ M.tabT l (M.ordL (M.wtF M.fOne l) N N) M.zst n r x ≤ 2000000 := fun r x => by
  obtain ⟨n1, n2, -⟩ := gr_N hg
  have hol := M.ord_full (M.uz_graph l) n2 hnp (Nat.le_refl N)
  have b1 := M.tabT_bd l (M.ordL (M.wtF M.fOne l) N N) M.zst (S := 0) (Int.le_refl _) (M.gr_plOk hg).delays (fun _ => ⟨Int.le_refl _, Int.le_refl _⟩) n r x
  have b3 : n * (M.ordL (M.wtF M.fOne l) N N).length ≤ 50 * 10 := Nat.mul_le_mul hn (by omega)
  omega
set_option maxRecDepth 100000 in
set_option maxHeartbeats 4000000 in
theorem holdingOf (x : Int) (a : Option Addr) (n cap : Nat) (l : List M.Pc) (nI : Int) (w : World) (h : Pls w a n l) :
    Calls Try.prog 51 #[.agg #[.int .i64 x, .slice a n cap], .int .i64 nI] w (VRes (M.hldRes x l nI) w) := by
  have HI := Lib.hid h
  have HLn : Hid (l.length = n) := h.1
  have hb0 := b_alloc w (.cells #[.int .i64 x, .slice a n cap] 41)
  have hG := gBox_new w x a n cap 41
  obtain ⟨wb, hwb⟩ : ∃ z, z = w.alloc (.cells #[.int .i64 x, .slice a n cap] 41) := ⟨_, rfl⟩
  rw [← hwb] at hb0 hG
  have HWb := Lib.hid hwb.symm
  have HG := Lib.hid hG
  have HB0 := Lib.hid hb0
  obtain ⟨cd, hcd⟩ : ∃ c, c = M.inCode (M.lvCode x l) (M.inB nI 0 50) := ⟨_, rfl⟩
  obtain ⟨TM, hTM⟩ : ∃ t, t = M.timM l (M.ordL (M.wtF M.fOne l) x.toNat x.toNat) M.zst x.toNat nI.toNat := ⟨_, rfl⟩
  have HC : Hid (Calls Try.prog 45 #[.agg #[.int .i64 x, .slice a n cap], .int .i64 nI] wb (MRes (if cd = 0 then (TM, 0) else ([], cd)) wb)) := by
    have := firingTimes x a n cap l nI wb (h.below hb0)
    unfold M.ftRes at this
    rw [← hcd, ← hTM] at this
    exact this
  have HCd := Lib.hid hcd
  have HTM := Lib.hid hTM
  obtain ⟨g0, g1⟩ := hG
  rw [hwb] at g0 g1
  clear h hb0 hwb hcd hTM
  by_cases h0 : cd = 0
  · subst h0
    rw [if_pos rfl] at HC
    obtain ⟨hlv, hut⟩ := M.inCode_t HCd.out.symm
    obtain ⟨N, hxN, hgr, hlive, hnp, n1, n10⟩ := lv_live hlv
    subst hxN
    obtain ⟨nn, hnI, hnn⟩ := inB_nat (m := 50) hut
    subst hnI
    have HGr := Lib.hid hgr
    have HNp := Lib.hid hnp
    have hn30 : n ≤ 30 := by rw [← HLn.out]; exact (gr_N hgr).2.2
    have HFb := Lib.hid (tab_bd50 hgr hnp hnn)
    obtain ⟨F, hF⟩ : ∃ F, F = M.tabT l (M.ordL (M.wtF M.fOne l) N N) M.zst nn := ⟨_, rfl⟩
    have HR : Hid (M.hldRes (N : Int) l nn = (M.hldL F l nn l.length, 0)) := by show _ = _; unfold M.hldRes; rw [← HCd.out, hF]; rfl
    have HTe : Hid (TM = M.mk nn N fun r e => F (r + 1) e) := by show _ = _; rw [HTM.out, hF]; rfl
    rw [← hF] at HFb
    clear hlv hut hgr hlive hnp hF
    go_enter Try.func51, Try.ntmps51
    go_wp2_with fail
    rw [HWb.out]
    refine HC.out.mono ?_
    rintro e w2 ⟨b2, m2, c2, rfl, ho, hb⟩
    rw [HTe.out] at ho
    have hm2 : nn = m2 := (ho.len.trans (M.mk_length _ _ _)).symm
    subst hm2
    have HMt := Lib.hid ho.mat
    have HBw := Lib.hid (HB0.out.trans (hb.mono HB0.out.size))
    clear g0 g1
    obtain ⟨g0, g1⟩ := HG.out.below hb
    have HO0 : Hid (Own w2 w2.heap.size (.slice none 0 0) (M.hldL F l nn 0)) := own_nil _ _
    clear ho hb
    go_wp2
    clear g0 g1
    go_loopw [9, 28] (fun hv kv wr => ∃ (k : Nat) (hb : Option Addr) (hc : Nat), k ≤ n ∧ kv = .int .i64 k ∧ hv = .slice hb k hc ∧ Hid (Own wr w2.heap.size hv (M.hldL F l nn k)) ∧ Hid (Below w2.heap.size w2 wr)) (fun _ kv _ => n - (intOf kv).toNat)
    case atStart => exact ⟨0, _, _, Nat.zero_le _, rfl, rfl, HO0, Below.refl _ _⟩
    case round =>
      clear HO0
      obtain ⟨k, hb, hc, hk, rfl, rfl, HO, HB⟩ := hrel
      obtain ⟨wo, rfl⟩ : ∃ x, x = wr := ⟨_, rfl⟩
      by_cases hkl : k < n
      · have hki : (k : Int) < (n : Int) := by omega
        obtain ⟨pb, off, p0, p1, p2, p3, rfl, -, hp, c0, c1, c2', c3⟩ := (HI.out.below (HBw.out.trans (HB.out.mono HBw.out.size))).at k hkl
        obtain ⟨i, j0, hi, hj, rfl, rfl, t2, t2', t3, t3'⟩ := gr_at HGr.out (by rw [HLn.out]; exact hkl) hp
        obtain ⟨tk, rfl, htk⟩ : ∃ t : Nat, p3 = (t : Int) ∧ t ≤ 5 := ⟨p3.toNat, by omega, by omega⟩
        have HNx : Hid (M.hldL F l nn (k + 1) = M.hldL F l nn k ++ [M.hldK F ((j0 : Int), (i : Int), p2, (tk : Int)) (nn - tk)]) := by
          have := M.hldL_next F l nn k
          rw [hp] at this
          exact this
        obtain ⟨J, hJ⟩ : ∃ J, J = nn - tk := ⟨_, rfl⟩
        rw [← hJ] at HNx
        have HJ := Lib.hid hJ
        clear hJ
        obtain ⟨q, hq⟩ : ∃ q : M.Pc, q = ((j0 : Int), (i : Int), p2, (tk : Int)) := ⟨_, rfl⟩
        have HKb : Hid (∀ j, -1 ≤ M.hldK F q j ∧ M.hldK F q j ≤ 2000000) := fun j => M.hldK_bd HFb.out (by rw [hq]; exact ⟨t2, t2'⟩) j
        have HKn : Hid (∀ j, M.hldK F q (j + 1) = max (M.hldK F q j) (F (tk + j + 1) i - F (j + 1) j0 - p2)) := fun j => by rw [hq]; rfl
        rw [← hq] at HNx
        have hk0 : M.hldK F q 0 = -1 := rfl
        obtain ⟨wp, hwp⟩ : ∃ z, z = wo.alloc (.cells #[.int .i64 j0, .int .i64 i, .int .i64 p2, .int .i64 tk] 52) := ⟨_, rfl⟩
        have hbp : Below wo.heap.size wo wp := by rw [hwp]; exact b_alloc wo _
        have HX : Hid (wp.cell? ⟨wo.heap.size, 0, none⟩ = some (.int .i64 j0) ∧ wp.cell? ⟨wo.heap.size, 1, none⟩ = some (.int .i64 i) ∧ wp.cell? ⟨wo.heap.size, 2, none⟩ = some (.int .i64 p2) ∧ wp.cell? ⟨wo.heap.size, 3, none⟩ = some (.int .i64 tk)) := by
          rw [hwp]; exact ⟨by simp [go_sem], by simp [go_sem], by simp [go_sem], by simp [go_sem]⟩
        have HWp := Lib.hid hwp.symm
        have HBp := Lib.hid (HB.out.trans (hbp.mono HB.out.size))
        have HOp := Lib.hid (HO.out.below hbp)
        obtain ⟨x0, x1, x2, x3⟩ := HX.out
        rw [hwp] at x0 x1 x2 x3
        have hw0 : wrap64 ((tk : Int) + 1) = (tk : Int) + 1 := IntWalk.wrap64_in _ ⟨by omega, by omega⟩
        clear hp hq hwp hbp
        go_wp2
        rw [HWp.out]
        clear x0 x1 x2 x3
        go_loopw [12, 13] (fun mv kv wr => ∃ j : Nat, j ≤ J ∧ kv = .int .i64 ((tk : Int) + 1 + (j : Int)) ∧ mv = .int .i64 (M.hldK F q j) ∧ Hid (Below wp.heap.size wp wr)) (fun _ kv _ => nn + 1 - (intOf kv).toNat)
        case atStart => exact ⟨0, Nat.zero_le _, by simp, by rw [hk0], Below.refl _ _⟩
        case round =>
          obtain ⟨j, hjn, rfl, rfl, HBj⟩ := hrel
          obtain ⟨wi, rfl⟩ : ∃ x, x = wr := ⟨_, rfl⟩
          obtain ⟨κ, hκ⟩ : ∃ κ, κ = (tk : Int) + 1 + (j : Int) := ⟨_, rfl⟩
          rw [← hκ]
          have HK := Lib.hid hκ
          by_cases hjl : j < J
          · have hJ' := HJ.out
            have hji : κ ≤ (nn : Int) := by omega
            have hjn2 : tk + j < nn := by omega
            clear hJ'
            obtain ⟨x0, x1, x2, x3⟩ := HX.out
            have z0 := (HBj.out.cell (cell_lt x0)).trans x0
            have z1 := (HBj.out.cell (cell_lt x1)).trans x1
            have z2 := (HBj.out.cell (cell_lt x2)).trans x2
            have z3 := (HBj.out.cell (cell_lt x3)).trans x3
            obtain ⟨u, hu⟩ : ∃ u, u = F (tk + j + 1) i := ⟨_, rfl⟩
            obtain ⟨v, hv⟩ : ∃ v, v = F (j + 1) j0 := ⟨_, rfl⟩
            obtain ⟨m, hm⟩ : ∃ m, m = M.hldK F q j := ⟨_, rfl⟩
            have hub : 0 ≤ u ∧ u ≤ 2000000 := by rw [hu]; exact HFb.out _ _
            have hvb : 0 ≤ v ∧ v ≤ 2000000 := by rw [hv]; exact HFb.out _ _
            have HN := Lib.hid (HKn.out j)
            rw [← hu, ← hv, ← hm] at HN
            rw [← hm]
            have hrow : ∀ r, r < nn → ((M.mk nn N fun r e => F (r + 1) e).getD r []).length = N := fun r hr => M.mk_rowlen _ _ _ _ hr
            have HMi : Hid (Mat wi.drew b2 nn (M.mk nn N fun r e => F (r + 1) e)) := (HMt.out.below (HBp.out.trans (HBj.out.mono HBp.out.size))).below (b_draws wi 1)
            have HA1 : Hid (Calls Try.prog 100 #[.slice b2 nn c2, .int .i64 i, .int .i64 κ] wi.drew fun e w' => e = .returned (.int .i64 u) ∧ w' = wi.drew) := by
              have := ttAt b2 nn c2 _ (tk + j) i κ (by omega) wi.drew HMi.out (by omega) (by rw [hrow _ (by omega)]; exact hi) (by omega) (by rw [hrow _ (by omega)]; omega)
              rw [M.mk_ent _ _ _ _ _ (by omega) hi, ← hu] at this
              exact this
            have HA2 : Hid (Calls Try.prog 100 #[.slice b2 nn c2, .int .i64 j0, .int .i64 ((j : Int) + 1)] wi.drew fun e w' => e = .returned (.int .i64 v) ∧ w' = wi.drew) := by
              have := ttAt b2 nn c2 _ j j0 ((j : Int) + 1) rfl wi.drew HMi.out (by omega) (by rw [hrow _ (by omega)]; exact hj) (by omega) (by rw [hrow _ (by omega)]; omega)
              rw [M.mk_ent _ _ _ _ _ (by omega) hj, ← hv] at this
              exact this
            have hw1 : wrap64 (κ - (tk : Int)) = (j : Int) + 1 := by rw [IntWalk.wrap64_in _ ⟨by omega, by omega⟩]; omega
            have hw1' : IntKind.i64.wrap (κ - (tk : Int)) = (j : Int) + 1 := by rw [IntWalk.i64_in _ (by omega)]; omega
            have hw2 : wrap64 (u - v) = u - v := IntWalk.wrap64_in _ ⟨by omega, by omega⟩
            have hw2' : IntKind.i64.wrap (u - v) = u - v := IntWalk.i64_in _ (by omega)
            have hw3 : wrap64 (u - v - p2) = u - v - p2 := IntWalk.wrap64_in _ ⟨by omega, by omega⟩
            have hw3' : IntKind.i64.wrap (u - v - p2) = u - v - p2 := IntWalk.i64_in _ (by omega)
            have hw4 : wrap64 (κ + 1) = κ + 1 := IntWalk.wrap64_in _ ⟨by omega, by omega⟩
            clear hu hv hm hub hvb hrow x0 x1 x2 x3 hκ
            go_wp2
            go_still_tail 19, (by kernel_rfl)
            still_call (HA1.out)
            repeat still_step
            still_call (HA2.out)
            repeat still_step
            refine wpStill_nil ?_
            change wpList _ _ _ _ _ wi.drew
            go_wp2
            go_roundw
            case rel =>
              refine ⟨j + 1, by omega, congrArg (Value.int .i64) (by have q := HK.out; omega), ?_, HBj.out.drew⟩
              rw [HN.out]
              congr 1
              split <;> omega
            case measure => (have q := HK.out; simp [intOf]; omega)
          · obtain rfl : j = J := by omega
            have hji : ¬ κ ≤ (nn : Int) := by have q := HJ.out; omega
            clear hκ
            have hHl : Hid ((M.hldL F l nn k).length = k) := M.hldL_len _ _ _ _
            have HBw2 := Lib.hid (HBp.out.trans (HBj.out.mono HBp.out.size))
            have HOj := Lib.hid (HOp.out.below HBj.out)
            have hsz := HBw2.out.size
            go_wp2_with (at_builtin; refine append1 wi rfl (.tmp 59) (.tmp 61) rfl w2.heap.size _ _ _ k hHl.out rfl HOj.out rfl (by rw [hHl.out]; omega) hsz ?_)
            intro b4 c4 w4 hO4 hb4 _
            rw [← HNx.out] at hO4
            have HO4 := Lib.hid hO4
            have HB4 := Lib.hid (HBw2.out.trans hb4)
            clear hO4 hb4
            go_wp2
            go_roundw
            case rel => exact ⟨k + 1, _, _, by omega, by go_num, rfl, HO4, HB4⟩
            case measure => simp [intOf]; omega
      · obtain rfl : k = n := by omega
        go_wp2
        go_ret2
        rw [HR.out, HLn.out]
        exact ⟨_, _, _, rfl, HO.out.mono HBw.out.size, HBw.out.trans (HB.out.mono HBw.out.size)⟩
  · rw [if_neg h0] at HC
    have h0' : (cd != 0) = true := by simpa using h0
    have HR : Hid (M.hldRes x l nI = ([], cd)) := by show _ = _; unfold M.hldRes; rw [← HCd.out, if_neg h0]
    clear h0
    go_enter Try.func51, Try.ntmps51
    go_wp2_with fail
    rw [HWb.out]
    refine HC.out.mono ?_
    rintro e w2 ⟨b2, m2, c2, rfl, ho, hb⟩
    have HBw := Lib.hid (HB0.out.trans (hb.mono HB0.out.size))
    clear g0 g1 ho hb
    go_wp2
    go_ret2
    exact VRes.nil HR.out HBw.out
end V
end Go.Proofs.Ytjbffpmelglegaa
