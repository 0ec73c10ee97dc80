/- Texts laid together: Fsi. -/
import Derived.Test.YtjbffpmelglegaaQa72
import Derived.RegionTactic
import Derived.ChangeAlike
import Derived.BigRegion
set_option linter.unusedSimpArgs false
set_option linter.unusedVariables false
set_option linter.unusedSectionVars false
namespace Go.Proofs.Ytjbffpmelglegaa
namespace M
def irB (x : Int) (l : List Pc) (L : List Fr) : Bool := isGr x l && okF x.toNat l L
theorem isGr_nat {x : Int} {l : List Pc} (h : isGr x l = true) : ∃ N : Nat, x = (N : Int) := by
  unfold isGr inB at h
  simp only [Bool.and_eq_true, decide_eq_true_eq] at h
  exact ⟨x.toNat, by omega⟩
end M
namespace V
set_option maxRecDepth 100000
open Go.RowKit
theorem Frs.take {w : World} {a : Option Addr} {n k : Nat} {l : List M.Fr} (h : Frs w a n l) (hk : k ≤ n) : Frs w a k (l.take k) := by
  obtain ⟨h1, h2, h3⟩ := h
  refine ⟨by rw [List.length_take]; omega, by omega, ?_⟩
  rcases h3 with h3 | ⟨b, off, rfl, hlt, hc⟩
  · exact .inl (by omega)
  · refine .inr ⟨b, off, rfl, hlt, fun i hi => ?_⟩
    have := hc i (by omega)
    have e : (l.take k).getD i M.fz = l.getD i M.fz := by simp [List.getD_eq_getElem?_getD, List.getElem?_take, hi]
    rw [e]; exact this
set_option maxRecDepth 100000 in
set_option maxHeartbeats 8000000 in
set_option pp.deepTerms true in
set_option pp.maxSteps 200000 in
theorem sIsRun (x : Int) (a : Option Addr) (n cap : Nat) (l : List M.Pc) (fa : Option Addr) (fn fc : Nat) (L : List M.Fr) (w : World) (h : Pls w a n l) (hf : Frs w fa fn L) (hc : fn ≤ fc) (hcm : fc ≤ maxLen) :
    Calls Try.prog 24 #[.agg #[.int .i64 x, .slice a n cap], .slice fa fn fc] w fun z w' => z = .returned (.bool (M.irB x l L)) ∧ Below w.heap.size w w' := by
  have HI := Lib.hid h
  have HFr := Lib.hid hf
  have HLn : Hid (L.length = fn) := hf.1
  unfold maxLen at hcm
  have hb0 := b_alloc w (.cells #[.int .i64 x, .slice a n cap] 41)
  have hGb := gBox_new w x a n cap 41
  obtain ⟨wb, hwb⟩ : ∃ z, z = w.alloc (.cells #[.int .i64 x, .slice a n cap] 41) := ⟨_, rfl⟩
  rw [← hwb] at hb0 hGb
  have HB0 := Lib.hid hb0
  have HGb := Lib.hid hGb
  obtain ⟨r, hr⟩ : ∃ r, r = M.isGr x l := ⟨_, rfl⟩
  have HS : Hid (Calls Try.prog 67 #[.agg #[.int .i64 x, .slice a n cap]] wb fun e w' => e = .returned (.bool r) ∧ Below wb.heap.size wb w') := by rw [hr]; exact sIsEventGraph x a n cap l wb (h.below hb0)
  have HRr := Lib.hid hr
  clear h hf hb0 hGb hr
  cases r with
  | false =>
    have HE : Hid (M.irB x l L = false) := by show _ = _; unfold M.irB; rw [← HRr.out]; rfl
    go_enter Try.func24, Try.ntmps24
    go_wp2_with fail
    rw [← hwb]
    clear hwb
    refine (HS.out).mono ?_
    rintro z w1 ⟨rfl, hb1⟩
    have HB1 := Lib.hid (HB0.out.trans (hb1.mono HB0.out.size))
    clear hb1
    go_wp2
    go_ret
    exact ⟨by rw [HE.out]; rfl, HB1.out⟩
  | true =>
    obtain ⟨N, rfl⟩ := M.isGr_nat HRr.out.symm
    have HG := Lib.hid HRr.out.symm
    obtain ⟨n1, n2, hl30⟩ := gr_NF HG.out
    clear hl30
    by_cases hbig : 500 < fn
    · have hgt : (fn : Int) > 500 := by omega
      have HE : Hid (M.irB N l L = false) := by show _ = _; unfold M.irB M.okF; rw [HLn.out, decide_eq_false (by omega)]; simp
      go_enter Try.func24, Try.ntmps24
      go_wp2_with fail
      rw [← hwb]
      clear hwb
      refine (HS.out).mono ?_
      rintro z w1 ⟨rfl, hb1⟩
      have HB1 := Lib.hid (HB0.out.trans (hb1.mono HB0.out.size))
      clear hb1
      go_wp2
      go_ret
      exact ⟨by rw [HE.out]; rfl, HB1.out⟩
    · have hgt : ¬ (fn : Int) > 500 := by omega
      have HPl := Lib.hid (gr_allF HG.out)
      have HPt : Hid (∀ p ∈ l, 0 ≤ p.2.2.2) := fun p hp => (HPl.out p hp).2
      have HE : Hid (M.irB N l L = M.runK N l L fn) := by
        show _ = _
        unfold M.irB M.okF
        rw [HG.out, HLn.out, decide_eq_true (by omega), show (N : Int).toNat = N by omega]
        rfl
      obtain ⟨Z, hZ⟩ : ∃ Z, Z = M.irB N l L := ⟨_, rfl⟩
      rw [← hZ]
      have HZ := Lib.hid (hZ.trans HE.out)
      clear hZ HE HRr
      go_enter Try.func24, Try.ntmps24
      go_wp2_with fail
      rw [← hwb]
      clear hwb
      refine (HS.out).mono ?_
      rintro z w1 ⟨rfl, hb1⟩
      have HB1 := Lib.hid (HB0.out.trans (hb1.mono HB0.out.size))
      have HG1 := Lib.hid (HGb.out.below hb1)
      clear hb1 HS HB0 HGb
      go_wp2
      go_loopw [5] (fun kv wr => ∃ k : Nat, k ≤ fn ∧ kv = .int .i64 k ∧ Hid (M.runK N l L k = true) ∧ Hid (GBox wr w.heap.size N a n cap) ∧ Hid (Below w.heap.size w wr)) (fun kv _ => fn - (intOf kv).toNat)
      case atStart => exact ⟨0, Nat.zero_le _, rfl, rfl, HG1, HB1⟩
      case round =>
        obtain ⟨k, hk, rfl, HK, HGr, HB⟩ := hrel
        obtain ⟨wo, rfl⟩ : ∃ x, x = wr := ⟨_, rfl⟩
        clear HG1 HB1
        obtain ⟨g0, g1⟩ := HGr.out
        by_cases hkl : k < fn
        · have hki : (k : Int) < (fn : Int) := by omega
          have hkc : k ≤ fc := by omega
          obtain ⟨pb, off, p0, p1, p2, rfl, hplt, hp, c0, c1, c2⟩ := (HFr.out.below HB.out).at k hkl
          have hbz : Below wo.heap.size wo (wo.alloc (.cells #[.int .i64 0, .int .i64 0, .int .i64 0] 77)) := b_alloc wo _
          have d0 := (hbz.cell (p := ⟨pb, off + k * 3, none⟩) hplt).trans c0
          have d1 := (hbz.cell (p := ⟨pb, off + k * 3 + 1, none⟩) hplt).trans c1
          have d2 := (hbz.cell (p := ⟨pb, off + k * 3 + 2, none⟩) hplt).trans c2
          have HV := Lib.hid (M.runK_vld HPt.out (by rw [HLn.out]; omega) HK.out)
          have hNx := M.stpB_eq HV.out HPl.out (L.getD k M.fz)
          have HY : Hid (M.canB N l (L.take k) (M.lastF L k) (L.getD k M.fz) = true → M.runK N l L (k + 1) = true) := fun q => by unfold M.runK; rw [HK.out, q]; rfl
          have HNo : Hid (M.canB N l (L.take k) (M.lastF L k) (L.getD k M.fz) = false → Z = false) := fun q => HZ.out.trans (M.runK_no hkl q)
          rw [← hNx, hp] at HY HNo
          obtain ⟨lst, hlst⟩ : ∃ lst, lst = M.lastF L k := ⟨_, rfl⟩
          rw [← hlst] at HY HNo
          have HLst := Lib.hid hlst
          clear hNx hp hlst
          obtain ⟨c, hcc⟩ : ∃ c, c = M.cntF (L.take k) p0 := ⟨_, rfl⟩
          have hck : c ≤ k := by rw [hcc]; exact Nat.le_trans (M.cntF_le _ _) (by rw [List.length_take]; omega)
          have HCc := Lib.hid hcc
          clear hcc
          go_wp2
          go_region
          all_goals
            obtain ⟨wq, hwq⟩ : ∃ z, z = (wo.alloc (.cells #[.int .i64 p0, .int .i64 p1, .int .i64 p2] 77)).drew := ⟨_, rfl⟩
            rw [← hwq]
            have hbq : Below wo.heap.size wo wq := by rw [hwq]; exact (b_alloc wo _).drew
            have q0 : wq.cell? ⟨wo.heap.size, 0, none⟩ = some (.int .i64 p0) := by rw [hwq]; simp [go_sem]
            have q1 : wq.cell? ⟨wo.heap.size, 1, none⟩ = some (.int .i64 p1) := by rw [hwq]; simp [go_sem]
            have q2 : wq.cell? ⟨wo.heap.size, 2, none⟩ = some (.int .i64 p2) := by rw [hwq]; simp [go_sem]
            have HBq := Lib.hid (HB.out.trans (hbq.mono HB.out.size))
            have HGq := Lib.hid (HGr.out.below hbq)
            have HFq : Hid (Frs wq (some ⟨pb, off, none⟩) k (L.take k)) := (HFr.out.below HBq.out).take (by omega)
            have HFw : Hid (Frs wq (some ⟨pb, off, none⟩) fn L) := HFr.out.below HBq.out
            clear hwq hbq d0 d1 d2 hbz g0 g1 c0 c1 c2 hplt HB HGr
            obtain ⟨g0, g1⟩ := HGq.out
            have hwN : wrap64 ((N : Int) - 1) = (N : Int) - 1 := IntWalk.wrap64_in _ ⟨by omega, by omega⟩
            have hwN' : IntKind.i64.wrap ((N : Int) - 1) = (N : Int) - 1 := IntWalk.i64_in _ (by omega)
            have hwc : wrap64 ((c : Int) + 1) = (c : Int) + 1 := IntWalk.wrap64_in _ ⟨by omega, by omega⟩
            have hwc' : IntKind.i64.wrap ((c : Int) + 1) = (c : Int) + 1 := IntWalk.i64_in _ (by omega)
            have HCt : Hid (∀ q, Calls Try.prog 69 #[.slice (some ⟨pb, off, none⟩) k fc, .int .i64 p0] (wq.drewN q) fun e w' => e = .returned (.int .i64 c) ∧ wq.drewN q = w') := fun q => by
              have := sCount (some ⟨pb, off, none⟩) k fc (L.take k) p0 (wq.drewN q) (HFq.out.below (b_draws wq q))
              rw [← HCc.out] at this
              exact this.mono fun e w' ⟨x1, x2⟩ => ⟨x1, x2.symm⟩
            cases h1 : (decide (0 ≤ p0) && decide (p0 ≤ (N : Int) - 1)) with
            | false =>
              have HIn : Hid (∀ w, Calls Try.prog 68 #[.int .i64 p0, .int .i64 0, .int .i64 ((N : Int) - 1)] w fun e w' => e = .returned (.bool false) ∧ w = w') := fun w => by rw [← h1]; exact sIn _ _ _ _
              have HE : Hid (Z = false) := HNo.out (by
                unfold M.stpB
                have : decide (0 ≤ p0 ∧ p0 < (N : Int)) = false := decide_eq_false fun q => by
                  have : (decide (0 ≤ p0) && decide (p0 ≤ (N : Int) - 1)) = true := by simp; omega
                  rw [h1] at this; cases this
                rw [this]; rfl)
              clear h1 HY HNo HCt HCc
              go_wp2
              go_quiet ((go_at_call 68; first | with_reducible exact q_one_s (HIn.out _) | with_reducible exact q_more_s (HIn.out _)))
              go_wp2
              go_ret
              exact ⟨by rw [HE.out]; rfl, HBq.out.trans ((b_draws wq _).mono HBq.out.size)⟩
            | true =>
              have HIn : Hid (∀ w, Calls Try.prog 68 #[.int .i64 p0, .int .i64 0, .int .i64 ((N : Int) - 1)] w fun e w' => e = .returned (.bool true) ∧ w = w') := fun w => by rw [← h1]; exact sIn _ _ _ _
              have h1b : 0 ≤ p0 ∧ p0 < (N : Int) := by simp at h1; omega
              by_cases h2 : p1 = (c : Int) + 1
              · have h2b : (p1 != (c : Int) + 1) = false := by simp [h2]
                cases h3 : (decide (0 ≤ p2) && decide (p2 ≤ 1000000)) with
                | false =>
                  have HIt : Hid (∀ w, Calls Try.prog 68 #[.int .i64 p2, .int .i64 0, .int .i64 1000000] w fun e w' => e = .returned (.bool false) ∧ w = w') := fun w => by rw [← h3]; exact sIn _ _ _ _
                  have HE : Hid (Z = false) := HNo.out (by
                    unfold M.stpB
                    have : decide (0 ≤ p2 ∧ p2 ≤ 1000000) = false := decide_eq_false fun q => by
                      have : (decide (0 ≤ p2) && decide (p2 ≤ 1000000)) = true := by simp; omega
                      rw [h3] at this; cases this
                    simp only [this, Bool.and_false, Bool.false_and])
                  clear h3 HY HNo h1 h2
                  go_wp2
                  go_quiet (first | (go_at_call 68; first | with_reducible exact q_one_s (HIn.out _) | with_reducible exact q_more_s (HIn.out _) | with_reducible exact q_one_s (HIt.out _) | with_reducible exact q_more_s (HIt.out _)) | (go_at_call 69; first | with_reducible exact q_one_s (HCt.out _) | with_reducible exact q_more_s (HCt.out _)))
                  go_wp2
                  go_ret
                  exact ⟨by rw [HE.out]; rfl, HBq.out.trans ((b_draws wq _).mono HBq.out.size)⟩
                | true =>
                  have HIt : Hid (∀ w, Calls Try.prog 68 #[.int .i64 p2, .int .i64 0, .int .i64 1000000] w fun e w' => e = .returned (.bool true) ∧ w = w') := fun w => by rw [← h3]; exact sIn _ _ _ _
                  have h3b : 0 ≤ p2 ∧ p2 ≤ 1000000 := by simp at h3; omega
                  have HSt : Hid (M.stpB N l (L.take k) lst (p0, p1, p2) = (decide (lst ≤ p2) && (match M.rdyM l (L.take k) p0 with | none => false | some t => decide (t ≤ p2)))) := by
                    show _ = _
                    unfold M.stpB
                    have e1 : decide (0 ≤ p0 ∧ p0 < (N : Int)) = true := decide_eq_true h1b
                    have e2 : decide (p1 = ((M.cntF (L.take k) p0 : Nat) : Int) + 1) = true := decide_eq_true (by rw [← HCc.out]; exact h2)
                    have e3 : decide (0 ≤ p2 ∧ p2 ≤ 1000000) = true := decide_eq_true h3b
                    simp only [e1, e2, e3, Bool.true_and]
                    rfl
                  obtain ⟨e, he⟩ : ∃ e : Nat, p0 = (e : Int) := ⟨p0.toNat, by omega⟩
                  have HEv := Lib.hid he
                  obtain ⟨R, hR⟩ : ∃ R, R = M.rdyM l (L.take k) p0 := ⟨_, rfl⟩
                  rw [← hR] at HSt
                  have HRd : Hid (∀ q, Calls Try.prog 70 #[.agg #[.int .i64 N, .slice a n cap], .slice (some ⟨pb, off, none⟩) k fc, .int .i64 p0] (wq.drewN q) fun z w' => z = .returned (fndV R) ∧ Below (wq.drewN q).heap.size (wq.drewN q) w') := fun q => by
                    rw [hR, HEv.out]
                    exact sReady14 N a n cap l (some ⟨pb, off, none⟩) k fc (L.take k) e _ ((HI.out.below HBq.out).below (b_draws wq q)) HG.out (HFq.out.below (b_draws wq q)) (fun x t ht => by have h1 := HV.out.time x t ht; have h2 := HV.out.last0; omega) (by omega)
                  clear h1 h2 h3 hR he
                  -- the last time, by the place before
                  have HLw : Hid (∀ m : Nat, k = m + 1 → ∃ z : Int, lst = z ∧ wq.cell? ⟨pb, off + m * 3 + 2, none⟩ = some (.int .i64 z)) := fun m hm => by
                    obtain ⟨pb', off', y0, y1, y2, hpe, -, hy, -, -, c2⟩ := HFw.out.at m (by omega)
                    injection hpe with hpe
                    injection hpe with e1 e2
                    subst e1 e2
                    refine ⟨y2, ?_, c2⟩
                    rw [HLst.out, hm, M.lastF_succ, hy]
                  have HL0 : Hid (k = 0 → lst = 0) := fun q => by rw [HLst.out, q]; rfl
                  by_cases hk0 : k = 0
                  · have hkg : ¬ (k : Int) > 0 := by omega
                    have hlp : lst ≤ p2 := by have := HL0.out hk0; omega
                    have hkd : decide (0 < k) = false := decide_eq_false (by omega)
                    clear hk0
                    go_wp2
                    go_quiet (first | (go_at_call 68; first | with_reducible exact q_one_s (HIn.out _) | with_reducible exact q_more_s (HIn.out _) | with_reducible exact q_one_s (HIt.out _) | with_reducible exact q_more_s (HIt.out _)) | (go_at_call 69; first | with_reducible exact q_one_s (HCt.out _) | with_reducible exact q_more_s (HCt.out _)))
                    go_wp2_with fail
                    refine (HRd.out _).mono ?_
                    rintro z2 w3 ⟨rfl, hb3⟩
                    have HB3 := Lib.hid ((HBq.out.trans ((b_draws wq _).mono HBq.out.size)).trans (hb3.mono (HBq.out.trans ((b_draws wq _).mono HBq.out.size)).size))
                    have HG3 := Lib.hid (HGq.out.below ((b_draws wq _).trans (hb3.mono (b_draws wq _).size)))
                    have x2 : w3.cell? ⟨wo.heap.size, 2, none⟩ = some (.int .i64 p2) := (((b_draws wq _).trans (hb3.mono (b_draws wq _).size)).cell (p := ⟨wo.heap.size, 2, none⟩) (cell_lt q2)).trans q2
                    clear hb3 q0 q1 q2 g0 g1 HRd HCt HIn HIt
                    cases R with
                    | none =>
                      have HE : Hid (Z = false) := HNo.out (by rw [HSt.out]; simp)
                      clear HY HNo HSt
                      unfold fndV
                      go_wp2
                      go_ret
                      exact ⟨by rw [HE.out]; rfl, HB3.out⟩
                    | some t =>
                      unfold fndV
                      by_cases htp : p2 < t
                      · have HE : Hid (Z = false) := HNo.out (by rw [HSt.out]; simp; omega)
                        clear HY HNo HSt
                        go_wp2
                        go_ret
                        exact ⟨by rw [HE.out]; rfl, HB3.out⟩
                      · have HN : Hid (M.runK N l L (k + 1) = true) := HY.out (by rw [HSt.out]; simp; omega)
                        clear HY HNo HSt
                        go_wp2
                        go_roundw
                        case rel => exact ⟨k + 1, by omega, by go_num, HN, HG3, HB3⟩
                        case measure => simp [intOf]; omega
                  · obtain ⟨m, hm⟩ : ∃ m, k = m + 1 := ⟨k - 1, by omega⟩
                    obtain ⟨z, hz, q3⟩ := HLw.out m hm
                    have hkg : (k : Int) > 0 := by omega
                    have hkd : decide (0 < k) = true := decide_eq_true (by omega)
                    have hmf : (m : Int) < (fn : Int) := by omega
                    have hwk : wrap64 ((k : Int) - 1) = (m : Int) := by rw [IntWalk.wrap64_in _ ⟨by omega, by omega⟩]; omega
                    have hwk' : IntKind.i64.wrap ((k : Int) - 1) = (m : Int) := by rw [IntWalk.i64_in _ (by omega)]; omega
                    clear hk0 hm
                    by_cases hlz : p2 < z
                    · have HE : Hid (Z = false) := HNo.out (by rw [HSt.out, decide_eq_false (by omega)]; rfl)
                      clear HY HNo
                      go_wp2
                      go_quiet (first | (go_at_call 68; first | with_reducible exact q_one_s (HIn.out _) | with_reducible exact q_more_s (HIn.out _) | with_reducible exact q_one_s (HIt.out _) | with_reducible exact q_more_s (HIt.out _)) | (go_at_call 69; first | with_reducible exact q_one_s (HCt.out _) | with_reducible exact q_more_s (HCt.out _)))
                      go_wp2
                      go_ret
                      exact ⟨by rw [HE.out]; rfl, HBq.out.trans ((b_draws wq _).mono HBq.out.size)⟩
                    · have hlp : lst ≤ p2 := by omega
                      go_wp2
                      go_quiet (first | (go_at_call 68; first | with_reducible exact q_one_s (HIn.out _) | with_reducible exact q_more_s (HIn.out _) | with_reducible exact q_one_s (HIt.out _) | with_reducible exact q_more_s (HIt.out _)) | (go_at_call 69; first | with_reducible exact q_one_s (HCt.out _) | with_reducible exact q_more_s (HCt.out _)))
                      go_wp2_with fail
                      refine (HRd.out _).mono ?_
                      rintro z2 w3 ⟨rfl, hb3⟩
                      have HB3 := Lib.hid ((HBq.out.trans ((b_draws wq _).mono HBq.out.size)).trans (hb3.mono (HBq.out.trans ((b_draws wq _).mono HBq.out.size)).size))
                      have HG3 := Lib.hid (HGq.out.below ((b_draws wq _).trans (hb3.mono (b_draws wq _).size)))
                      have x2 : w3.cell? ⟨wo.heap.size, 2, none⟩ = some (.int .i64 p2) := (((b_draws wq _).trans (hb3.mono (b_draws wq _).size)).cell (p := ⟨wo.heap.size, 2, none⟩) (cell_lt q2)).trans q2
                      clear hb3 q0 q1 q2 g0 g1 HRd HCt HIn HIt
                      cases R with
                      | none =>
                        have HE : Hid (Z = false) := HNo.out (by rw [HSt.out]; simp)
                        clear HY HNo HSt
                        unfold fndV
                        go_wp2
                        go_ret
                        exact ⟨by rw [HE.out]; rfl, HB3.out⟩
                      | some t =>
                        unfold fndV
                        by_cases htp : p2 < t
                        · have HE : Hid (Z = false) := HNo.out (by rw [HSt.out]; simp; omega)
                          clear HY HNo HSt
                          go_wp2
                          go_ret
                          exact ⟨by rw [HE.out]; rfl, HB3.out⟩
                        · have HN : Hid (M.runK N l L (k + 1) = true) := HY.out (by rw [HSt.out]; simp; omega)
                          clear HY HNo HSt
                          go_wp2
                          go_roundw
                          case rel => exact ⟨k + 1, by omega, by go_num, HN, HG3, HB3⟩
                          case measure => simp [intOf]; omega
              · have h2b : (p1 != (c : Int) + 1) = true := by simpa using h2
                have HE : Hid (Z = false) := HNo.out (by
                  unfold M.stpB
                  have : decide (p1 = ((M.cntF (L.take k) p0 : Nat) : Int) + 1) = false := decide_eq_false fun q => h2 (by rw [HCc.out]; exact q)
                  simp only [this, Bool.and_false, Bool.false_and])
                clear HY HNo h1 h2
                go_wp2
                go_quiet (first | (go_at_call 68; first | with_reducible exact q_one_s (HIn.out _) | with_reducible exact q_more_s (HIn.out _)) | (go_at_call 69; first | with_reducible exact q_one_s (HCt.out _) | with_reducible exact q_more_s (HCt.out _)))
                go_wp2
                go_ret
                exact ⟨by rw [HE.out]; rfl, HBq.out.trans ((b_draws wq _).mono HBq.out.size)⟩
        · obtain rfl : k = fn := by omega
          have HE : Hid (Z = true) := HZ.out.trans HK.out
          go_wp2
          go_ret
          exact ⟨by rw [HE.out]; rfl, HB.out⟩
end V
end Go.Proofs.Ytjbffpmelglegaa
