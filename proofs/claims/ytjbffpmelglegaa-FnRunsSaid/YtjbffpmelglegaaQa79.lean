/- Texts laid together: Fhe. -/
import Derived.Test.YtjbffpmelglegaaQa78
import Derived.Test.YtjbffpmelglegaaQa73
set_option linter.unusedSimpArgs false
set_option linter.unusedVariables false
set_option linter.unusedSectionVars false
namespace Go.Proofs.Ytjbffpmelglegaa
namespace M
def rcode (x : Int) (l : List Pc) (L : List Fr) : Int := rcF (isGr x l) x.toNat l L
theorem rcode_run {N : Nat} {l : List Pc} {L : List Fr} (hg : isGr (N : Int) l = true) (hl : L.length ≤ 500) : rcode N l L = if runK N l L L.length then 0 else 2 := by
  unfold rcode rcF okF
  rw [hg, decide_eq_true hl, show ((N : Int)).toNat = N by omega]
  rfl
theorem irB_code (x : Int) (l : List Pc) (L : List Fr) : irB x l L = decide (rcode x l L = 0) := by
  unfold irB rcode rcF
  cases isGr x l with
  | false => rfl
  | true =>
    cases okF x.toNat l L with
    | false => rfl
    | true => rfl
end M
namespace V
set_option maxRecDepth 100000
open Go.RowKit
/-- What the search for a history leaves. -/
def HPost (x : Int) (l : List M.Pc) (L : List M.Fr) (w : World) (z : Ending) (w' : World) : Prop :=
  Below w.heap.size w w' ∧ ∃ v, z = .returned (.tuple #[v, .int .i64 (M.rcode x l L)]) ∧ (M.rcode x l L ≠ 0 → v = .slice none 0 0) ∧
    (M.rcode x l L = 0 → ∃ N g tc : Nat, x = (N : Int) ∧ M.isGr (N : Int) l = true ∧ L.length ≤ 500 ∧ M.runK N l L L.length = true ∧ v = .slice (some ⟨g, 0, none⟩) N tc ∧ OwnM w' w.heap.size (.slice (some ⟨g, 0, none⟩) N tc) (M.hisM N L))
set_option maxRecDepth 100000 in
set_option maxHeartbeats 8000000 in
theorem historyOf (x : Int) (a : Option Addr) (n cap : Nat) (l : List M.Pc) (fa : Option Addr) (fn fc : Nat) (L : List M.Fr) (w : World) (h : Pls w a n l) (hf : Frs w fa fn L) :
    Calls Try.prog 72 #[.agg #[.int .i64 x, .slice a n cap], .slice fa fn fc] w (HPost x l L w) := by
  have HI := Lib.hid h
  have HFr := Lib.hid hf
  have HLn : Hid (L.length = fn) := hf.1
  have hfm := hf.2.1
  unfold maxLen at hfm
  have hb0 := b_alloc w (.cells #[.int .i64 x, .slice a n cap] 41)
  have hGb := gBox_new w x a n cap 41
  obtain ⟨wb, hwb⟩ : ∃ z, z = w.alloc (.cells #[.int .i64 x, .slice a n cap] 41) := ⟨_, rfl⟩
  rw [← hwb] at hb0 hGb
  have HB0 := Lib.hid hb0
  have HGb := Lib.hid hGb
  obtain ⟨r, hr⟩ : ∃ r, r = M.isGr x l := ⟨_, rfl⟩
  have HS : Hid (Calls Try.prog 109 #[.agg #[.int .i64 x, .slice a n cap]] wb fun e w' => e = .returned (.bool r) ∧ Below wb.heap.size wb w') := by rw [hr]; exact isEventGraph x a n cap l wb (h.below hb0)
  have HRr := Lib.hid hr
  clear h hf hb0 hGb hr
  cases r with
  | false =>
    have HE : Hid (M.rcode x l L = 1) := by show _ = _; unfold M.rcode; rw [← HRr.out]; rfl
    go_enter Try.func72, Try.ntmps72
    go_wp2_with fail
    rw [← hwb]
    clear hwb
    refine (HS.out).mono ?_
    rintro z w1 ⟨rfl, hb1⟩
    have HB1 := Lib.hid (HB0.out.trans (hb1.mono HB0.out.size))
    clear hb1
    go_wp2
    go_ret2
    exact ⟨HB1.out, .slice none 0 0, by rw [HE.out]; rfl, fun _ => rfl, fun q => by rw [HE.out] at q; cases q⟩
  | true =>
    obtain ⟨N, rfl⟩ := M.isGr_nat HRr.out.symm
    have HG := Lib.hid HRr.out.symm
    obtain ⟨n1, n2, hl30⟩ := gr_NF HG.out
    clear hl30
    by_cases hbig : 500 < fn
    · have hgt : (fn : Int) > 500 := by omega
      have HE : Hid (M.rcode N l L = 2) := by show _ = _; unfold M.rcode M.rcF M.okF; rw [HG.out, HLn.out, decide_eq_false (by omega)]; rfl
      go_enter Try.func72, Try.ntmps72
      go_wp2_with fail
      rw [← hwb]
      clear hwb
      refine (HS.out).mono ?_
      rintro z w1 ⟨rfl, hb1⟩
      have HB1 := Lib.hid (HB0.out.trans (hb1.mono HB0.out.size))
      clear hb1
      go_wp2
      go_ret2
      exact ⟨HB1.out, .slice none 0 0, by rw [HE.out]; rfl, fun _ => rfl, fun q => by rw [HE.out] at q; cases q⟩
    · have hgt : ¬ (fn : Int) > 500 := by omega
      have HPl := Lib.hid (gr_allF HG.out)
      have HPt : Hid (∀ p ∈ l, 0 ≤ p.2.2.2) := fun p hp => (HPl.out p hp).2
      have HE : Hid (M.rcode N l L = if M.runK N l L fn then 0 else 2) := by
        show _ = _
        rw [M.rcode_run HG.out (by rw [HLn.out]; omega), HLn.out]
      have hmk := run_make_row' (P := Try.prog) 88 24 (.slice none 0 0) 24 Try.underlying88 infoS64 rfl .i64 .i64 N (by omega) (by omega)
      obtain ⟨C, hC⟩ : ∃ C, C = M.rcode N l L := ⟨_, rfl⟩
      have HP : Hid (HPost N l L w = HPost N l L w) := rfl
      have HC := Lib.hid (hC.trans HE.out)
      have HCe := Lib.hid hC
      clear HE HRr hC HP
      go_enter Try.func72, Try.ntmps72
      go_wp2_with fail
      rw [← hwb]
      clear hwb
      refine (HS.out).mono ?_
      rintro z w1 ⟨rfl, hb1⟩
      have HB1 := Lib.hid (HB0.out.trans (hb1.mono HB0.out.size))
      have HG1 := Lib.hid (HGb.out.below hb1)
      have hz1 : w.heap.size + 1 ≤ w1.heap.size := cell_lt HG1.out.1
      obtain ⟨g0, g1⟩ := HG1.out
      have HO0 : Hid (OwnM (w1.alloc (.cells (madeCells #[.slice none 0 0] N) 24)) (w.heap.size + 1) (.slice (some ⟨w1.heap.size, 0, none⟩) N N) (M.hisM N (L.take 0))) := by
        have := ownM_made w1 (w.heap.size + 1) N hz1 (by unfold maxLen; omega)
        rw [List.take_zero, M.hisM_nil]
        exact this
      have hG2 := HG1.out.below (b_alloc w1 (.cells (madeCells #[.slice none 0 0] N) 24))
      have HG2 := Lib.hid hG2
      have HB2 : Hid (Below w.heap.size w (w1.alloc (.cells (madeCells #[.slice none 0 0] N) 24))) := HB1.out.alloc HB1.out.size _
      obtain ⟨gh, hgh⟩ : ∃ g, g = w1.heap.size := ⟨_, rfl⟩
      rw [← hgh] at HO0
      have HGh := Lib.hid hgh.symm
      clear hb1 HS HB0 HGb HG1 HB1 hG2 hgh
      go_wp2
      rw [HGh.out]
      clear g0 g1
      go_loopw [7, 21] (fun lv kv wr => ∃ k : Nat, k ≤ fn ∧ kv = .int .i64 k ∧ lv = .int .i64 (M.lastF L k) ∧ Hid (M.runK N l L k = true) ∧ Hid (OwnM wr (w.heap.size + 1) (.slice (some ⟨gh, 0, none⟩) N N) (M.hisM N (L.take k))) ∧ Hid (GBox wr w.heap.size N a n cap) ∧ Hid (Below w.heap.size w wr)) (fun _ kv _ => fn - (intOf kv).toNat)
      case atStart => exact ⟨0, Nat.zero_le _, rfl, rfl, rfl, HO0, HG2, HB2⟩
      case round =>
        obtain ⟨k, hk, rfl, rfl, HK, HO, HGr, HB⟩ := hrel
        obtain ⟨wo, rfl⟩ : ∃ x, x = wr := ⟨_, rfl⟩
        clear HO0 HG2 HB2
        obtain ⟨g0, g1⟩ := HGr.out
        by_cases hkl : k < fn
        · have hki : (k : Int) < (fn : Int) := by omega
          obtain ⟨pb, off, p0, p1, p2, rfl, -, hp, c0, c1, c2⟩ := (HFr.out.below HB.out).at k hkl
          have HV := Lib.hid (M.runK_vld HPt.out (by rw [HLn.out]; omega) HK.out)
          have hz0 : w.heap.size + 1 ≤ wo.heap.size := cell_lt g0
          obtain ⟨lst, hlst⟩ : ∃ lst, lst = M.lastF L k := ⟨_, rfl⟩
          obtain ⟨b, hb⟩ : ∃ b, b = M.canB N l (L.take k) lst (p0, p1, p2) := ⟨_, rfl⟩
          have hbw : Below wo.heap.size wo (wo.alloc (.cells #[.int .i64 p0, .int .i64 p1, .int .i64 p2] 77)) := b_alloc wo _
          obtain ⟨gx0, gx1⟩ := HGr.out.below hbw
          obtain ⟨wp, hwp⟩ : ∃ z, z = wo.alloc (.cells #[.int .i64 p0, .int .i64 p1, .int .i64 p2] 77) := ⟨_, rfl⟩
          have HCf : Hid (Calls Try.prog 121 #[.agg #[.int .i64 N, .slice a n cap], .slice (some ⟨gh, 0, none⟩) N N, .int .i64 lst, .agg #[.int .i64 p0, .int .i64 p1, .int .i64 p2]] wp fun z w' => z = .returned (.bool b) ∧ Below wp.heap.size wp w') := by
            rw [hb, hwp]
            refine canFollow N a n cap l (some ⟨gh, 0, none⟩) N (L.take k) lst p0 p1 p2 _ ((HI.out.below HB.out).below hbw) HG.out (HO.out.mat.below hbw) (by rw [List.length_take]; omega) ?_
            rw [hlst]; exact HV.out
          have HYes : Hid (b = true → M.runK N l L (k + 1) = true) := fun q => by unfold M.runK; rw [HK.out, hp, ← hlst, ← hb, q]; rfl
          have HNo : Hid (b = false → C = 2) := fun q => by
            have := M.runK_no (N := N) (pl := l) (l := L) (m := fn) hkl (by rw [hp, ← hlst, ← hb]; exact q)
            rw [HC.out, this]; rfl
          have HEv : Hid (b = true → 0 ≤ p0 ∧ p0 < (N : Int)) := fun q => (M.canB_iff.1 (hb.symm.trans q)).1
          have HTk : Hid (L.take (k + 1) = L.take k ++ [(p0, p1, p2)]) := by show _ = _; rw [M.takeF_snoc L M.fz (by rw [HLn.out]; exact hkl), hp]
          have HLs : Hid (M.lastF L (k + 1) = p2) := by show _ = _; rw [M.lastF_succ, hp]
          have q0 : wp.cell? ⟨wo.heap.size, 0, none⟩ = some (.int .i64 p0) := by rw [hwp]; simp [go_sem]
          have q2 : wp.cell? ⟨wo.heap.size, 2, none⟩ = some (.int .i64 p2) := by rw [hwp]; simp [go_sem]
          rw [← hwp] at hbw
          have HBw := Lib.hid hbw
          have HWp := Lib.hid hwp.symm
          rw [← hlst]
          clear hp hlst hb hwp hbw
          go_wp2_with fail
          rw [HWp.out]
          refine (HCf.out).mono ?_
          rintro z w3 ⟨rfl, hb3⟩
          have HB3 := Lib.hid (HBw.out.trans (hb3.mono HBw.out.size))
          have x0 := (hb3.cell (cell_lt q0)).trans q0
          have x2 := (hb3.cell (cell_lt q2)).trans q2
          obtain ⟨y0, y1⟩ := HGr.out.below HB3.out
          have hz3 : wo.heap.size < w3.heap.size := cell_lt x0
          clear hb3 q0 q2 g0 g1 c0 c1 c2 gx0 gx1 HCf HBw HWp
          cases b with
          | false =>
            have HE : Hid (C = 2) := HNo.out rfl
            have HBf := Lib.hid (HB.out.trans (HB3.out.mono HB.out.size))
            clear HYes HNo HEv
            go_wp2
            go_ret2
            refine ⟨HBf.out, .slice none 0 0, ?_, fun _ => rfl, fun q => ?_⟩
            · rw [← HCe.out, HE.out]; rfl
            · rw [← HCe.out, HE.out] at q; cases q
          | true =>
            have HK2 := Lib.hid (HYes.out rfl)
            obtain ⟨e, he⟩ : ∃ e : Nat, p0 = (e : Int) := ⟨p0.toNat, by have := HEv.out rfl; omega⟩
            have heN : e < N := by have := HEv.out rfl; omega
            subst he
            clear HYes HNo HEv
            go_wp2_with fail
            refine (histAdd N gh N (w.heap.size + 1) (L.take k) e p1 p2 wo w3 HO.out HB3.out hz0 heN n2 (by rw [List.length_take]; omega)).mono ?_
            rintro z w4 ⟨rfl, ho, hb4, hk4⟩
            rw [← HTk.out] at ho
            have HO4 := Lib.hid ho
            have u2 : w4.cell? ⟨wo.heap.size, 2, none⟩ = some (.int .i64 p2) := (World.cell?_of_block (a := ⟨wo.heap.size, 2, none⟩) (hk4 _ (Nat.le_refl _) hz3)).trans x2
            have HG4 : Hid (GBox w4 w.heap.size N a n cap) := ⟨(hb4.cell (p := ⟨w.heap.size, 0, none⟩) (Nat.lt_succ_self _)).trans y0, (hb4.cell (p := ⟨w.heap.size, 1, none⟩) (Nat.lt_succ_self _)).trans y1⟩
            have HB4 : Hid (Below w.heap.size w w4) := (HB.out.trans (HB3.out.mono HB.out.size)).trans (hb4.mono (Nat.le_succ _))
            clear ho hb4 hk4 x0 x2 y0 y1
            go_wp2
            go_roundw
            case rel => exact ⟨k + 1, by omega, by go_num, by rw [HLs.out], HK2, HO4, HG4, HB4⟩
            case measure => simp [intOf]; omega
        · obtain rfl : k = fn := by omega
          have HE : Hid (C = 0) := by show _ = _; rw [HC.out, HK.out]; rfl
          have HTk : Hid (L.take k = L) := List.take_of_length_le (by rw [HLn.out]; exact Nat.le_refl _)
          have ho := HO.out
          rw [HTk.out] at ho
          have HOf := Lib.hid (ho.mono (Nat.le_succ w.heap.size))
          clear ho
          go_wp2
          go_ret2
          refine ⟨HB.out, .slice (some ⟨gh, 0, none⟩) N N, ?_, fun q => ?_, fun _ => ⟨N, gh, N, rfl, HG.out, by rw [HLn.out]; omega, by rw [HLn.out]; exact HK.out, rfl, HOf.out⟩⟩
          · rw [← HCe.out, HE.out]; rfl
          · rw [← HCe.out, HE.out] at q; exact absurd rfl q
set_option maxRecDepth 100000 in
set_option maxHeartbeats 2000000 in
theorem isRun (x : Int) (a : Option Addr) (n cap : Nat) (l : List M.Pc) (fa : Option Addr) (fn fc : Nat) (L : List M.Fr) (w : World) (h : Pls w a n l) (hf : Frs w fa fn L) :
    Calls Try.prog 26 #[.agg #[.int .i64 x, .slice a n cap], .slice fa fn fc] w fun z w' => z = .returned (.bool (M.irB x l L)) ∧ Below w.heap.size w w' := by
  have hb0 := b_alloc w (.cells #[.int .i64 x, .slice a n cap] 41)
  have hGb := gBox_new w x a n cap 41
  obtain ⟨wb, hwb⟩ : ∃ z, z = w.alloc (.cells #[.int .i64 x, .slice a n cap] 41) := ⟨_, rfl⟩
  rw [← hwb] at hb0
  have HC : Hid (Calls Try.prog 72 #[.agg #[.int .i64 x, .slice a n cap], .slice fa fn fc] wb (HPost x l L wb)) := historyOf x a n cap l fa fn fc L wb (h.below hb0) (hf.below hb0)
  obtain ⟨C, hC⟩ : ∃ C, C = M.rcode x l L := ⟨_, rfl⟩
  have HE : Hid (M.irB x l L = decide (C = 0)) := by show _ = _; rw [hC]; exact M.irB_code x l L
  unfold HPost at HC
  rw [← hC] at HC
  have HB0 := Lib.hid hb0
  obtain ⟨g0, g1⟩ := hGb
  clear h hf hb0 hC
  go_enter Try.func26, Try.ntmps26
  go_wp2_with fail
  rw [← hwb]
  clear hwb
  refine (HC.out).mono ?_
  rintro z w1 ⟨hb1, v, rfl, -, -⟩
  have HB1 := Lib.hid (HB0.out.trans (hb1.mono HB0.out.size))
  clear hb1 g0 g1
  go_wp2
  go_ret
  refine ⟨?_, HB1.out⟩
  rw [HE.out]
  by_cases q : C = 0
  · subst q; rfl
  · simp [q]
end V
end Go.Proofs.Ytjbffpmelglegaa
