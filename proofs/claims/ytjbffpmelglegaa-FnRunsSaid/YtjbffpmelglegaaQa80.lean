/- Texts laid together: Fne. -/
import Derived.Test.YtjbffpmelglegaaQa79
import Derived.Test.YtjbffpmelglegaaQa6
set_option linter.unusedSimpArgs false
set_option linter.unusedVariables false
set_option linter.unusedSectionVars false
namespace Go.Proofs.Ytjbffpmelglegaa
namespace M
def nxtRes (x : Int) (l : List Pc) (L : List Fr) : List Int × Int := nxtF (isGr x l) x.toNat l L
theorem rcode_zero {x : Int} {l : List Pc} {L : List Fr} (h : rcode x l L = 0) : ∃ N : Nat, x = (N : Int) ∧ isGr (N : Int) l = true ∧ L.length ≤ 500 ∧ runK N l L L.length = true := by
  unfold rcode rcF at h
  cases hg : isGr x l with
  | false => rw [hg] at h; cases h
  | true =>
    rw [hg] at h
    obtain ⟨N, rfl⟩ := isGr_nat hg
    rw [show ((N : Int)).toNat = N by omega] at h
    cases ho : okF N l L with
    | false => rw [ho] at h; cases h
    | true =>
      unfold okF at ho
      rw [Bool.and_eq_true, decide_eq_true_iff] at ho
      exact ⟨N, rfl, hg, ho.1, ho.2⟩
theorem nxtRes_no {x : Int} {l : List Pc} {L : List Fr} {c : Int} (h : rcode x l L = c) (hc : c ≠ 0) : nxtRes x l L = ([], c) := by
  unfold nxtRes nxtF
  unfold rcode at h
  rw [h, if_neg hc]
theorem nxtRes_yes {N : Nat} {l : List Pc} {L : List Fr} (h : rcode N l L = 0) : nxtRes N l L = (enL l L N, 0) := by
  unfold nxtRes nxtF
  unfold rcode at h
  rw [h, if_pos rfl, show ((N : Int)).toNat = N by omega]
theorem nxtRes_len (x : Int) (l : List Pc) (L : List Fr) : (nxtRes x l L).1.length ≤ 30 := by
  by_cases h : rcode x l L = 0
  · obtain ⟨N, rfl, hg, -, -⟩ := rcode_zero h
    rw [nxtRes_yes h]
    have := enL_len l L N
    unfold isGr inB at hg
    simp only [Bool.and_eq_true, decide_eq_true_eq] at hg
    simp only
    omega
  · rw [nxtRes_no rfl h]; simp
end M
namespace V
set_option maxRecDepth 100000
open Go.RowKit
set_option maxRecDepth 100000 in
set_option maxHeartbeats 2000000 in
theorem sCode14 (x : Int) (a : Option Addr) (n cap : Nat) (l : List M.Pc) (fa : Option Addr) (fn fc : Nat) (L : List M.Fr) (w : World) (h : Pls w a n l) (hf : Frs w fa fn L) (hc : fn ≤ fc) (hcm : fc ≤ maxLen) :
    Calls Try.prog 74 #[.agg #[.int .i64 x, .slice a n cap], .slice fa fn fc] w fun z w' => z = .returned (.int .i64 (M.rcode x l L)) ∧ Below w.heap.size w w' := by
  have hb0 := b_alloc w (.cells #[.int .i64 x, .slice a n cap] 41)
  have hGb := gBox_new w x a n cap 41
  obtain ⟨wb, hwb⟩ : ∃ z, z = w.alloc (.cells #[.int .i64 x, .slice a n cap] 41) := ⟨_, rfl⟩
  rw [← hwb] at hb0 hGb
  have HB0 := Lib.hid hb0
  have HGb := Lib.hid hGb
  obtain ⟨r, hr⟩ : ∃ r, r = M.isGr x l := ⟨_, rfl⟩
  have HS : Hid (Calls Try.prog 67 #[.agg #[.int .i64 x, .slice a n cap]] wb fun e w' => e = .returned (.bool r) ∧ Below wb.heap.size wb w') := by rw [hr]; exact sIsEventGraph x a n cap l wb (h.below hb0)
  obtain ⟨i, hi⟩ : ∃ i, i = M.irB x l L := ⟨_, rfl⟩
  have HR : Hid (∀ W, Below w.heap.size w W → Calls Try.prog 24 #[.agg #[.int .i64 x, .slice a n cap], .slice fa fn fc] W fun z w' => z = .returned (.bool i) ∧ Below W.heap.size W w') := fun W hW => by rw [hi]; exact sIsRun x a n cap l fa fn fc L W (h.below hW) (hf.below hW) hc hcm
  obtain ⟨C, hC⟩ : ∃ C, C = M.rcode x l L := ⟨_, rfl⟩
  have HCr : Hid (C = if r then (if i then 0 else 2) else 1) := by
    show _ = _
    rw [hC, hr, hi]
    unfold M.irB M.rcode M.rcF
    cases M.isGr x l <;> simp
  rw [← hC]
  clear h hf hb0 hGb hr hi hC
  go_enter Try.func74, Try.ntmps74
  go_wp2_with fail
  rw [← hwb]
  clear hwb
  refine (HS.out).mono ?_
  rintro z w1 ⟨rfl, hb1⟩
  have HB1 := Lib.hid (HB0.out.trans (hb1.mono HB0.out.size))
  obtain ⟨g0, g1⟩ := HGb.out.below hb1
  clear hb1
  cases r with
  | false =>
    have HE : Hid (C = 1) := HCr.out
    go_wp2
    go_ret
    exact ⟨by rw [HE.out]; rfl, HB1.out⟩
  | true =>
    have HRc := Lib.hid (HR.out w1 HB1.out)
    go_wp2_with fail
    refine (HRc.out).mono ?_
    rintro z w2 ⟨rfl, hb2⟩
    have HB2 := Lib.hid (HB1.out.trans (hb2.mono HB1.out.size))
    clear hb2 g0 g1
    cases i with
    | false =>
      have HE : Hid (C = 2) := HCr.out
      go_wp2
      go_ret
      exact ⟨by rw [HE.out]; rfl, HB2.out⟩
    | true =>
      have HE : Hid (C = 0) := HCr.out
      go_wp2
      go_ret
      exact ⟨by rw [HE.out]; rfl, HB2.out⟩
set_option maxRecDepth 100000 in
set_option maxHeartbeats 4000000 in
theorem sNextEvents (x : Int) (a : Option Addr) (n cap : Nat) (l : List M.Pc) (fa : Option Addr) (fn fc : Nat) (L : List M.Fr) (w : World) (h : Pls w a n l) (hf : Frs w fa fn L) (hc : fn ≤ fc) (hcm : fc ≤ maxLen) :
    Calls Try.prog 33 #[.agg #[.int .i64 x, .slice a n cap], .slice fa fn fc] w (VRes (M.nxtRes x l L) w) := by
  have HI := Lib.hid h
  have HFr := Lib.hid hf
  have HLn : Hid (L.length = fn) := hf.1
  have hb0 := b_alloc w (.cells #[.int .i64 x, .slice a n cap] 41)
  have hGb := gBox_new w x a n cap 41
  obtain ⟨wb, hwb⟩ : ∃ z, z = w.alloc (.cells #[.int .i64 x, .slice a n cap] 41) := ⟨_, rfl⟩
  rw [← hwb] at hb0 hGb
  have HB0 := Lib.hid hb0
  have HGb := Lib.hid hGb
  obtain ⟨C, hC⟩ : ∃ C, C = M.rcode x l L := ⟨_, rfl⟩
  have HS : Hid (Calls Try.prog 74 #[.agg #[.int .i64 x, .slice a n cap], .slice fa fn fc] wb fun z w' => z = .returned (.int .i64 C) ∧ Below wb.heap.size wb w') := by rw [hC]; exact sCode14 x a n cap l fa fn fc L wb (h.below hb0) (hf.below hb0) hc hcm
  have HCe := Lib.hid hC
  clear h hf hb0 hGb hC
  by_cases h0 : C = 0
  · subst h0
    obtain ⟨N, rfl, hg, hl5, hrun⟩ := M.rcode_zero HCe.out.symm
    have HG := Lib.hid hg
    obtain ⟨n1, n2, -⟩ := gr_NF hg
    have hfn : fn ≤ 500 := by rw [HLn.out] at hl5; exact hl5
    have hV := M.runK_vld (fun p hp => (gr_allF hg p hp).2) (Nat.le_refl _) hrun
    rw [List.take_length] at hV
    have HV := Lib.hid hV
    have HR : Hid (M.nxtRes N l L = (M.enL l L N, 0)) := M.nxtRes_yes HCe.out.symm
    clear hg hl5 hrun hV
    go_enter Try.func33, Try.ntmps33
    go_wp2_with fail
    rw [← hwb]
    clear hwb
    refine (HS.out).mono ?_
    rintro z w1 ⟨rfl, hb1⟩
    have HB1 := Lib.hid (HB0.out.trans (hb1.mono HB0.out.size))
    have hG1 := HGb.out.below hb1
    have hz1 : w.heap.size + 1 ≤ w1.heap.size := cell_lt hG1.1
    have HB2 : Hid (Below w.heap.size w (w1.alloc (.cells #[] 2))) := HB1.out.alloc HB1.out.size _
    have HG2 : Hid (GBox (w1.alloc (.cells #[] 2)) w.heap.size N a n cap) := hG1.below (b_alloc w1 _)
    have HO0 : Hid (Own (w1.alloc (.cells #[] 2)) (w.heap.size + 1) (.slice (some ⟨w1.heap.size, 0, none⟩) 0 0) (M.enL l L 0)) := own_lit0 w1 _ hz1
    obtain ⟨g0, g1⟩ := hG1
    clear hb1 HS
    go_wp2
    clear g0 g1
    go_loopw [7, 8] (fun lv kv wr => ∃ (k : Nat) (b : Option Addr) (c : Nat), k ≤ N ∧ kv = .int .i64 k ∧ lv = .slice b (M.enL l L k).length c ∧ Hid (Own wr (w.heap.size + 1) (.slice b (M.enL l L k).length c) (M.enL l L k)) ∧ Hid (GBox wr w.heap.size N a n cap) ∧ Hid (Below w.heap.size w wr)) (fun _ kv _ => N - (intOf kv).toNat)
    case atStart => exact ⟨0, _, _, Nat.zero_le _, rfl, rfl, HO0, HG2, HB2⟩
    case round =>
      obtain ⟨k, b, c, hk, rfl, rfl, HO, HGr, HB⟩ := hrel
      obtain ⟨wo, rfl⟩ : ∃ x, x = wr := ⟨_, rfl⟩
      clear HO0 HG2 HB2
      obtain ⟨g0, g1⟩ := HGr.out
      by_cases hkl : k < N
      · have hki : (k : Int) < (N : Int) := by omega
        have hsz1 : w.heap.size + 1 ≤ wo.heap.size := cell_lt g0
        have hlen2 : (M.enL l L k).length ≤ 10 := by have := M.enL_len l L k; omega
        have HNx : Hid (M.enL l L (k + 1) = if M.enB l L k then M.enL l L k ++ [(k : Int)] else M.enL l L k) := rfl
        have hcall := sReady14 N a n cap l fa fn fc L k wo (HI.out.below HB.out) HG.out (HFr.out.below HB.out) (fun x t ht => by have h1 := HV.out.time x t ht; have h2 := HV.out.last0; omega) hfn
        rw [M.rdyM_eq HV.out (gr_allF HG.out) k] at hcall
        obtain ⟨t, ht⟩ : ∃ t, t = M.enB l L k := ⟨_, rfl⟩
        obtain ⟨u, hu⟩ : ∃ u, u = M.rd (M.hisF L) (M.cntF L (k : Int) + 1) k l 0 := ⟨_, rfl⟩
        rw [← hu] at hcall
        rw [← ht] at HNx hcall
        have HCa := Lib.hid hcall
        clear ht hcall hu
        go_wp2_with fail
        refine (HCa.out).mono ?_
        rintro z w3 ⟨rfl, hb3⟩
        have HO3 := Lib.hid (HO.out.below hb3)
        have HB3 := Lib.hid (HB.out.trans (hb3.mono HB.out.size))
        have HG3 := Lib.hid (HGr.out.below hb3)
        have hsz3 : w.heap.size + 1 ≤ w3.heap.size := Nat.le_trans hsz1 hb3.size
        clear hb3 HO HGr g0 g1 hsz1 HCa
        obtain ⟨g0, g1⟩ := HG3.out
        cases t with
        | true =>
          have HN : Hid (M.enL l L (k + 1) = M.enL l L k ++ [(k : Int)]) := HNx.out
          have HNl : Hid ((M.enL l L (k + 1)).length = (M.enL l L k).length + 1) := by show _ = _; rw [HN.out]; simp
          obtain ⟨m, hm⟩ : ∃ m, m = (M.enL l L k).length := ⟨_, rfl⟩
          rw [← hm] at HO3 HNl hlen2 ⊢
          have HLl := Lib.hid hm.symm
          clear hm
          rw [if_pos rfl]
          unfold fndV
          go_wp2_with (at_builtin; refine append1 _ rfl (.tmp 32) (.tmp 34) rfl (w.heap.size + 1) _ _ _ m HLl.out rfl HO3.out rfl (by rw [HLl.out]; omega) hsz3 ?_)
          intro b2 c2' w4 hO2 hb2 hk2
          rw [← HN.out, ← HNl.out] at hO2
          have HO4 := Lib.hid hO2
          have HB4 := Lib.hid (HB3.out.trans (hb2.mono (by omega)))
          have HG4 : Hid (GBox w4 w.heap.size N a n cap) := by
            have hne : (Value.slice b m c).ownBlock ≠ some w.heap.size := fun q => absurd (own_lt HO3.out q).1 (by omega)
            have e := hk2 w.heap.size (cell_lt g0) hne
            exact ⟨(World.cell?_of_block (a := ⟨w.heap.size, 0, none⟩) e).trans g0, (World.cell?_of_block (a := ⟨w.heap.size, 1, none⟩) e).trans g1⟩
          rw [← HNl.out]
          clear hO2 hb2 hk2 g0 g1
          go_wp2
          go_roundw
          case rel => exact ⟨k + 1, _, _, by omega, by go_num, rfl, HO4, HG4, HB4⟩
          case measure => simp [intOf]; omega
        | false =>
          have HN : Hid (M.enL l L (k + 1) = M.enL l L k) := HNx.out
          rw [if_neg (by simp)]
          unfold fndV
          go_wp2
          go_roundw
          case rel => exact ⟨k + 1, _, _, by omega, by go_num, by rw [HN.out], by rw [HN.out]; exact HO3, HG3, HB3⟩
          case measure => simp [intOf]; omega
      · obtain rfl : k = N := by omega
        have HOf := Lib.hid (HO.out.mono (Nat.le_succ w.heap.size))
        go_wp2
        go_ret2
        rw [HR.out]
        exact ⟨_, _, _, rfl, HOf.out, HB.out⟩
  · have h0' : (C != 0) = true := by simpa using h0
    have HR : Hid (M.nxtRes x l L = ([], C)) := M.nxtRes_no HCe.out.symm h0
    clear h0
    go_enter Try.func33, Try.ntmps33
    go_wp2_with fail
    rw [← hwb]
    clear hwb
    refine (HS.out).mono ?_
    rintro z w1 ⟨rfl, hb1⟩
    have HB1 := Lib.hid (HB0.out.trans (hb1.mono HB0.out.size))
    clear hb1
    go_wp2
    go_ret2
    exact VRes.nil HR.out HB1.out
set_option maxRecDepth 100000 in
set_option maxHeartbeats 2000000 in
theorem nextEvents (x : Int) (a : Option Addr) (n cap : Nat) (l : List M.Pc) (fa : Option Addr) (fn fc : Nat) (L : List M.Fr) (w : World) (h : Pls w a n l) (hf : Frs w fa fn L) :
    Calls Try.prog 34 #[.agg #[.int .i64 x, .slice a n cap], .slice fa fn fc] w (VRes (M.nxtRes x l L) w) := by
  have HI := Lib.hid h
  have hb0 := b_alloc w (.cells #[.int .i64 x, .slice a n cap] 41)
  have hGb := gBox_new w x a n cap 41
  obtain ⟨wb, hwb⟩ : ∃ z, z = w.alloc (.cells #[.int .i64 x, .slice a n cap] 41) := ⟨_, rfl⟩
  rw [← hwb] at hb0 hGb
  have HB0 := Lib.hid hb0
  have HGb := Lib.hid hGb
  have HC : Hid (Calls Try.prog 72 #[.agg #[.int .i64 x, .slice a n cap], .slice fa fn fc] wb (HPost x l L wb)) := historyOf x a n cap l fa fn fc L wb (h.below hb0) (hf.below hb0)
  obtain ⟨C, hC⟩ : ∃ C, C = M.rcode x l L := ⟨_, rfl⟩
  unfold HPost at HC
  rw [← hC] at HC
  have HCe := Lib.hid hC
  clear h hf hb0 hGb hC
  by_cases h0 : C = 0
  · subst h0
    go_enter Try.func34, Try.ntmps34
    go_wp2_with fail
    rw [← hwb]
    clear hwb
    refine (HC.out).mono ?_
    rintro z w1 ⟨hb1, v, rfl, -, hy⟩
    obtain ⟨N, g, tc, rfl, hg, hl5, hrun, rfl, ho⟩ := hy (by first | rfl | trivial)
    have HR : Hid (M.nxtRes N l L = (M.enL l L N, 0)) := M.nxtRes_yes HCe.out.symm
    have HB1 := Lib.hid (HB0.out.trans (hb1.mono HB0.out.size))
    obtain ⟨g0, g1⟩ := HGb.out.below hb1
    have HEn := Lib.hid (enabledE N a n cap l (some ⟨g, 0, none⟩) tc L w1 (HI.out.below HB1.out) hg ho.mat hl5)
    clear hb1 hy hg hl5 hrun ho HC
    go_wp2_with fail
    refine (HEn.out).mono ?_
    rintro z w2 ⟨b, c, rfl, ho2, hb2⟩
    have HO2 := Lib.hid (ho2.mono HB1.out.size)
    have HB2 := Lib.hid (HB1.out.trans (hb2.mono HB1.out.size))
    clear ho2 hb2 g0 g1 HEn
    go_wp2
    go_ret2
    rw [HR.out]
    exact ⟨_, _, _, rfl, HO2.out, HB2.out⟩
  · have h0' : (C != 0) = true := by simpa using h0
    have HR : Hid (M.nxtRes x l L = ([], C)) := M.nxtRes_no HCe.out.symm h0
    go_enter Try.func34, Try.ntmps34
    go_wp2_with fail
    rw [← hwb]
    clear hwb
    refine (HC.out).mono ?_
    rintro z w1 ⟨hb1, v, rfl, hn, -⟩
    obtain rfl := hn (by first | exact h0 | trivial)
    have HB1 := Lib.hid (HB0.out.trans (hb1.mono HB0.out.size))
    clear hb1 hn h0
    go_wp2
    go_ret2
    exact VRes.nil HR.out HB1.out
end V
end Go.Proofs.Ytjbffpmelglegaa
