/- Texts laid together: Flt. -/
import Derived.Test.YtjbffpmelglegaaQa82
import Derived.Test.YtjbffpmelglegaaQa80
set_option linter.unusedSimpArgs false
set_option linter.unusedVariables false
set_option linter.unusedSectionVars false
namespace Go.Proofs.Ytjbffpmelglegaa
namespace M
def latRes (x : Int) (l : List Pc) (L : List Fr) : List Int × Int := latF (isGr x l) x.toNat l L
theorem latRes_no {x : Int} {l : List Pc} {L : List Fr} {c : Int} (h : rcode x l L = c) (hc : c ≠ 0) : latRes x l L = ([], c) := by
  unfold latRes latF
  unfold rcode at h
  rw [h, if_neg hc]
theorem latRes_yes {N : Nat} {l : List Pc} {L : List Fr} (h : rcode N l L = 0) : latRes N l L = if fewB L then (latK l L L.length, 0) else ([], 2) := by
  unfold latRes latF
  unfold rcode at h
  rw [h, if_pos rfl]
theorem latRes_len (x : Int) (l : List Pc) (L : List Fr) : (latRes x l L).1.length ≤ 500 := by
  by_cases h : rcode x l L = 0
  · obtain ⟨N, rfl, hg, hl, -⟩ := rcode_zero h
    rw [latRes_yes h]
    cases fewB L with
    | false => simp
    | true => simp only [if_true]; rw [latK_len]; exact hl
  · rw [latRes_no rfl h]; simp
theorem few_no {L : List Fr} {k : Nat} (hk : k < L.length) (h : 50 < (L.getD k fz).2.1) : fewB L = false := by
  unfold fewB
  rw [← Bool.not_eq_true, List.all_eq_true]
  intro q
  have := q (L.getD k fz) (by rw [List.getD_eq_getElem?_getD, List.getElem?_eq_getElem hk]; exact List.getElem_mem _)
  simp only [decide_eq_true_iff] at this
  omega
theorem few_yes {L : List Fr} (h : ∀ i, i < L.length → (L.getD i fz).2.1 ≤ 50) : fewB L = true := by
  unfold fewB
  rw [List.all_eq_true]
  intro f hf
  obtain ⟨i, hi, rfl⟩ := List.mem_iff_getElem.1 hf
  have := h i hi
  rw [List.getD_eq_getElem?_getD, List.getElem?_eq_getElem hi] at this
  simpa using this
theorem runK_can {N : Nat} {pl : List Pc} {L : List Fr} {k m : Nat} (hm : k < m) (h : runK N pl L m = true) : canB N pl (L.take k) (lastF L k) (L.getD k fz) = true := by
  have := runK_down (m := k + 1) (by omega) h
  unfold runK at this
  rw [Bool.and_eq_true] at this
  exact this.2
theorem eaT_bd {N : Nat} {pl : List Pc} {L : List Fr} {k : Nat} (hk : k < L.length) (h : runK N pl L L.length = true) (hpl : ∀ p ∈ pl, 0 ≤ p.2.2.2) : 0 ≤ eaT pl (eaL pl L k) (L.getD k fz) ∧ eaT pl (eaL pl L k) (L.getD k fz) ≤ (L.getD k fz).2.2 := by
  have hr := runK_down (m := k) (by omega) h
  obtain ⟨-, -, -, c4, -⟩ := canB_iff.1 (runK_can hk h)
  have hv := runK_vld hpl (by omega) hr
  refine ⟨rd_ge0 (Int.le_refl _), Int.le_trans ?_ c4⟩
  unfold eaT
  rw [eaL_cnt pl (by omega)]
  exact rd_mono (fun r x => ea_le (by omega) hr hpl x (r - 1)) hv.last0.1
end M
namespace V
set_option maxRecDepth 100000
open Go.RowKit
theorem OwnV.keepX {w w' : World} {B : Nat} {v : Value} {R : List (List Int)} {V : List Value} (h : OwnV w B v R V) (hk : ∀ k, (v.ownBlock = some k ∨ ∃ i, i < R.length ∧ (V.getD i (.slice none 0 0)).ownBlock = some k) → w'.heap[k]? = w.heap[k]?) : OwnV w' B v R V := by
  obtain ⟨h1, h2, h3, h4, h5⟩ := h
  exact ⟨h1, ownsRow_keep h2 (fun k hv => hk k (.inl hv)), fun i hi => ownsRow_keep (h3 i hi) (fun k hv => hk k (.inr ⟨i, hi, hv⟩)), h4, h5⟩
theorem OwnV.belowV {w w' : World} {B : Nat} {v : Value} {R : List (List Int)} {V : List Value} (h : OwnV w B v R V) (hb : Below w.heap.size w w') : OwnV w' B v R V := by
  have h' := h
  obtain ⟨h1, h2, h3, h4, h5⟩ := h
  refine h'.keepX fun k hk => hb.block k ?_
  rcases hk with hk | ⟨i, hi, hk⟩
  · exact (own_lt h2 hk).2
  · exact (own_lt (h3 i hi) hk).2
/-- The list and the history lie apart. -/
def Apt (w : World) (lv : Value) (g : Nat) (V : List Value) : Prop := lv.ownBlock ≠ some g ∧ g < w.heap.size ∧ ∀ i k, (V.getD i (.slice none 0 0)).ownBlock = some k → lv.ownBlock ≠ some k ∧ k < w.heap.size
set_option maxRecDepth 100000 in
set_option maxHeartbeats 8000000 in
theorem latenessOf (x : Int) (a : Option Addr) (n cap : Nat) (l : List M.Pc) (fa : Option Addr) (fn fc : Nat) (L : List M.Fr) (w : World) (h : Pls w a n l) (hf : Frs w fa fn L) :
    Calls Try.prog 32 #[.agg #[.int .i64 x, .slice a n cap], .slice fa fn fc] w (VRes (M.latRes x l L) w) := by
  have HI := Lib.hid h
  have HL : Hid (l.length = n) := h.1
  have HFr := Lib.hid hf
  have HLn : Hid (L.length = fn) := hf.1
  have hb0 := b_alloc w (.cells #[.int .i64 x, .slice a n cap] 41)
  have hGb := gBox_new w x a n cap 41
  obtain ⟨wb, hwb⟩ : ∃ z, z = w.alloc (.cells #[.int .i64 x, .slice a n cap] 41) := ⟨_, rfl⟩
  rw [← hwb] at hb0 hGb
  have HB0 := Lib.hid hb0
  have HGb := Lib.hid hGb
  have HC : Hid (Calls Try.prog 72 #[.agg #[.int .i64 x, .slice a n cap], .slice fa fn fc] wb (HPost x l L wb)) := historyOf x a n cap l fa fn fc L wb (h.below hb0) (hf.below hb0)
  obtain ⟨C, hC⟩ : ∃ C, C = M.rcode x l L := ⟨_, rfl⟩
  unfold HPost at HC
  rw [← hC] at HC
  have HCe := Lib.hid hC
  clear h hf hb0 hGb hC
  by_cases h0 : C = 0
  · subst h0
    obtain ⟨Z, hZ⟩ : ∃ Z, Z = M.latRes x l L := ⟨_, rfl⟩
    rw [← hZ]
    have HZ0 := Lib.hid hZ
    clear hZ
    go_enter Try.func32, Try.ntmps32
    go_wp2_with fail
    rw [← hwb]
    clear hwb
    refine (HC.out).mono ?_
    rintro z w1 ⟨hb1, v, rfl, -, hy⟩
    obtain ⟨N, g, tc, rfl, hg, hl5, hrun, -, -⟩ := hy (by first | rfl | trivial)
    have HG := Lib.hid hg
    obtain ⟨n1, n2, -⟩ := gr_NF hg
    have hfn : fn ≤ 500 := by rw [HLn.out] at hl5; exact hl5
    have HRun := Lib.hid hrun
    have HPt : Hid (∀ p ∈ l, 0 ≤ p.2.2.2) := fun p hp => (gr_allF hg p hp).2
    have HZ : Hid (Z = if M.fewB L then (M.latK l L fn, 0) else ([], 2)) := by show _ = _; rw [HZ0.out, M.latRes_yes HCe.out.symm, HLn.out]
    have HB1 := Lib.hid (HB0.out.trans (hb1.mono HB0.out.size))
    have HG1 := Lib.hid (HGb.out.below hb1)
    have hmk := run_make_row' (P := Try.prog) 88 24 (.slice none 0 0) 24 Try.underlying88 infoS64 rfl .i64 .i64 N (by omega) (by omega)
    have hz1 : w.heap.size + 1 ≤ w1.heap.size := cell_lt HG1.out.1
    obtain ⟨V0, HO0⟩ : ∃ V0, Hid (OwnV (w1.alloc (.cells (madeCells #[.slice none 0 0] N) 24)) (w.heap.size + 1) (.slice (some ⟨w1.heap.size, 0, none⟩) N N) (M.hisM N (M.eaL l L 0)) V0) := by
      obtain ⟨V0, hV0⟩ := ownM_made w1 (w.heap.size + 1) N hz1 (by unfold maxLen; omega)
      refine ⟨V0, ?_⟩
      show OwnV _ _ _ _ _
      rw [show M.eaL l L 0 = [] from rfl, M.hisM_nil]
      exact hV0
    have HG2 := Lib.hid (HG1.out.below (b_alloc w1 (.cells (madeCells #[.slice none 0 0] N) 24)))
    have HB2 : Hid (Below w.heap.size w (w1.alloc (.cells (madeCells #[.slice none 0 0] N) 24))) := HB1.out.alloc HB1.out.size _
    obtain ⟨ge, hge⟩ : ∃ g, g = w1.heap.size := ⟨_, rfl⟩
    rw [← hge] at HO0
    have HAp0 : Hid (Apt (w1.alloc (.cells (madeCells #[.slice none 0 0] N) 24)) (.slice none 0 0) ge V0) := by
      refine ⟨by simp [Value.ownBlock], by rw [World.size_alloc]; omega, fun i k hk => ⟨by simp [Value.ownBlock], ?_⟩⟩
      obtain ⟨e1, e2, e3, e4, e5⟩ := HO0.out
      by_cases hi : i < (M.hisM N (M.eaL l L 0)).length
      · exact (own_lt (e3 i hi) hk).2
      · rw [List.getD_eq_getElem?_getD, List.getElem?_eq_none (by omega)] at hk
        simp [Value.ownBlock] at hk
    have hLO0 : Hid (Own (w1.alloc (.cells (madeCells #[.slice none 0 0] N) 24)) (w.heap.size + 1) (.slice none 0 0) (M.latK l L 0)) := own_nil _ _
    have HGe := Lib.hid hge.symm
    obtain ⟨g0, g1⟩ := HG1.out
    clear hb1 hy hg hl5 hrun HC HG1 HB1 hge HZ0
    go_wp2
    rw [HGe.out]
    clear g0 g1
    go_loopw [8, 27] (fun lv kv wr => ∃ (k : Nat) (b : Option Addr) (c : Nat) (V : List Value), k ≤ fn ∧ kv = .int .i64 k ∧ lv = .slice b k c ∧ Hid (∀ i, i < k → (L.getD i M.fz).2.1 ≤ 50) ∧ Hid (Own wr (w.heap.size + 1) (.slice b k c) (M.latK l L k)) ∧ Hid (OwnV wr (w.heap.size + 1) (.slice (some ⟨ge, 0, none⟩) N N) (M.hisM N (M.eaL l L k)) V) ∧ Hid (Apt wr (.slice b k c) ge V) ∧ Hid (GBox wr w.heap.size N a n cap) ∧ Hid (Below w.heap.size w wr)) (fun _ kv _ => fn - (intOf kv).toNat)
    case atStart => exact ⟨0, _, _, _, Nat.zero_le _, rfl, rfl, fun i hi => absurd hi (Nat.not_lt_zero i), hLO0, HO0, HAp0, HG2, HB2⟩
    case round =>
      obtain ⟨k, b, c, V, hk, rfl, rfl, HFw, HLo, HHi, HAp, HGr, HB⟩ := hrel
      obtain ⟨wo, rfl⟩ : ∃ x, x = wr := ⟨_, rfl⟩
      clear hLO0 HO0 HAp0 HG2 HB2
      obtain ⟨g0, g1⟩ := HGr.out
      by_cases hkl : k < fn
      · have hki : (k : Int) < (fn : Int) := by omega
        have hsz1 : w.heap.size + 1 ≤ wo.heap.size := cell_lt g0
        have hkL : k < L.length := by rw [HLn.out]; exact hkl
        obtain ⟨pb, off, p0, p1, p2, rfl, -, hp, c0, c1, c2⟩ := (HFr.out.below HB.out).at k hkl
        have hbw : Below wo.heap.size wo (wo.alloc (.cells #[.int .i64 p0, .int .i64 p1, .int .i64 p2] 77)) := b_alloc wo _
        obtain ⟨gx0, gx1⟩ := HGr.out.below hbw
        by_cases h50 : p1 > 50
        · have HE : Hid (Z = ([], 2)) := by show _ = _; rw [HZ.out, M.few_no hkL (by rw [hp]; exact h50)]; rfl
          have HBf : Hid (Below w.heap.size w (wo.alloc (.cells #[.int .i64 p0, .int .i64 p1, .int .i64 p2] 77))) := HB.out.alloc HB.out.size _
          clear hp hbw
          go_wp2
          go_ret2
          exact VRes.nil HE.out HBf.out
        · have hcan := M.runK_can hkL HRun.out
          have hbd := M.eaT_bd hkL HRun.out HPt.out
          have hrk := M.runK_down (m := k) (by omega) HRun.out
          have hv := M.ea_vld (by omega) hrk HPt.out
          rw [hp] at hcan hbd
          obtain ⟨d1, d2, d3, d4, d5⟩ := M.canB_iff.1 hcan
          simp only at d1 d2 d3 d5 hbd
          obtain ⟨e, rfl⟩ : ∃ e : Nat, p0 = (e : Int) := ⟨p0.toNat, by omega⟩
          have heN : e < N := by omega
          have hcnt := M.eaL_cnt l (l := L) (k := k) (by omega) (e : Int)
          obtain ⟨κ, hκ⟩ : ∃ κ : Nat, κ = M.cntF (M.eaL l L k) (e : Int) + 1 := ⟨_, rfl⟩
          have hp1 : p1 = (κ : Int) := by rw [d2, hκ, hcnt]; simp
          have hκb : κ ≤ 501 := by have := M.cntF_le (M.eaL l L k) (e : Int); rw [M.eaL_len] at this; omega
          subst hp1
          obtain ⟨T, hT⟩ : ∃ T, T = M.eaT l (M.eaL l L k) ((e : Int), (κ : Int), p2) := ⟨_, rfl⟩
          rw [← hT] at hbd
          obtain ⟨wp, hwp⟩ : ∃ z, z = wo.alloc (.cells #[.int .i64 e, .int .i64 κ, .int .i64 p2] 77) := ⟨_, rfl⟩
          have HRd : Hid (Calls Try.prog 78 #[.agg #[.int .i64 N, .slice a n cap], .int .i64 e, .int .i64 κ, .int .i64 0, .func (.func 79) #[.slice (some ⟨ge, 0, none⟩) N N] #[]] wp fun z w' => z = .returned (.int .i64 T) ∧ Below wp.heap.size wp w') := by
            have hM : Mat wp (some ⟨ge, 0, none⟩) N (M.hisM N (M.eaL l L k)) := by rw [hwp]; exact (OwnM.mat ⟨V, HHi.out⟩).below hbw
            have hPl : Pls wp a n l := by rw [hwp]; exact (HI.out.below HB.out).below hbw
            have := readyTimeH N a n cap l (some ⟨ge, 0, none⟩) N (M.eaL l L k) e κ 0 wp hPl HG.out hM (by rw [M.eaL_len]; omega) hκb (fun p hpm hpe hpk => ?_) (fun x t ht => hv.time x t ht) ⟨Int.le_refl _, by decide⟩
            · have e1 : T = M.rd (M.hisF (M.eaL l L k)) κ e l 0 := by rw [hT, hκ]; rfl
              rw [e1]; exact this
            · have hen : M.enB l (M.eaL l L k) (e : Int) = true := by rw [M.enB_cnt (fun x => M.eaL_cnt l (l := L) (k := k) (by omega) x)]; exact d3
              have := hv.has hen hpm hpe (by omega)
              omega
          have HF2 : Hid (∀ i, i < k + 1 → (L.getD i M.fz).2.1 ≤ 50) := fun i hi => by
            rcases Nat.lt_or_ge i k with q | q
            · exact HFw.out i q
            · rw [show i = k by omega, hp]; simp only; omega
          have HEa : Hid (M.eaL l L (k + 1) = M.eaL l L k ++ [((e : Int), (κ : Int), T)]) := by show _ = _; rw [hT, ← hp]; show M.eaL l L k ++ _ = _; rw [hp]
          have HLk : Hid (M.latK l L (k + 1) = M.latK l L k ++ [p2 - T]) := by show M.latK l L k ++ _ = _; rw [hp, hT]
          have HLl : Hid ((M.latK l L k).length = k) := M.latK_len _ _ _
          have hw1 : wrap64 (p2 - T) = p2 - T := IntWalk.wrap64_in _ ⟨by omega, by omega⟩
          have hw1' : IntKind.i64.wrap (p2 - T) = p2 - T := IntWalk.i64_in _ (by omega)
          have HLe : Hid ((M.eaL l L k).length = k) := M.eaL_len _ _ _
          have q0 : wp.cell? ⟨wo.heap.size, 0, none⟩ = some (.int .i64 e) := by rw [hwp]; simp [go_sem]
          have q2 : wp.cell? ⟨wo.heap.size, 2, none⟩ = some (.int .i64 p2) := by rw [hwp]; simp [go_sem]
          rw [← hwp] at hbw
          have HBw := Lib.hid hbw
          have HWp := Lib.hid hwp.symm
          clear hp hcan hbd hrk hv d1 d2 d3 d4 d5 hcnt hκ hT hwp hbw
          go_wp2_with fail
          rw [HWp.out]
          refine (HRd.out).mono ?_
          rintro z w3 ⟨rfl, hb3⟩
          have HB3 := Lib.hid (HBw.out.trans (hb3.mono HBw.out.size))
          have x0 := (hb3.cell (cell_lt q0)).trans q0
          have x2 := (hb3.cell (cell_lt q2)).trans q2
          obtain ⟨y0, y1⟩ := HGr.out.below HB3.out
          have hz3 : wo.heap.size < w3.heap.size := cell_lt x0
          clear hb3 q0 q2 g0 g1 c0 c1 c2 gx0 gx1 HRd HBw HWp
          go_wp2_with fail
          refine (histAddV N ge N (w.heap.size + 1) (M.eaL l L k) e κ T V w3 (HHi.out.belowV HB3.out) (by omega) heN n2 (by rw [HLe.out]; omega)).mono ?_
          rintro z w4 ⟨rfl, V', hV4, hb4, hk4, hn4⟩
          rw [← HEa.out] at hV4
          obtain ⟨ap1, ap2, ap3⟩ := HAp.out
          have hz4 : w3.heap.size ≤ w4.heap.size := hb4.size
          have hkeep : ∀ q, q < w3.heap.size → q ≠ ge → (∀ i, (V.getD i (.slice none 0 0)).ownBlock ≠ some q) → w4.heap[q]? = w3.heap[q]? := fun q q1 q2 q3 => hk4 q q1 q2 (q3 e)
          have u2 : w4.cell? ⟨wo.heap.size, 2, none⟩ = some (.int .i64 p2) := (World.cell?_of_block (a := ⟨wo.heap.size, 2, none⟩) (hkeep wo.heap.size hz3 (by omega) (fun i hi => Nat.lt_irrefl _ (ap3 i _ hi).2))).trans x2
          have HLo4 : Hid (Own w4 (w.heap.size + 1) (.slice b k c) (M.latK l L k)) := by
            have h3 := HLo.out.below HB3.out
            exact ownsRow_keep h3 (fun q hq => hkeep q (own_lt h3 hq).2 (fun e1 => ap1 (by rw [← e1]; exact hq)) (fun i hi => (ap3 i q hi).1 hq))
          have HG4 : Hid (GBox w4 w.heap.size N a n cap) := ⟨(hb4.cell (p := ⟨w.heap.size, 0, none⟩) (Nat.lt_succ_self _)).trans y0, (hb4.cell (p := ⟨w.heap.size, 1, none⟩) (Nat.lt_succ_self _)).trans y1⟩
          have HB4 : Hid (Below w.heap.size w w4) := (HB.out.trans (HB3.out.mono HB.out.size)).trans (hb4.mono (Nat.le_succ _))
          have HAp4 : Hid (Apt w4 (.slice b k c) ge V') := by
            refine ⟨ap1, by omega, fun i q hq => ?_⟩
            have hlt : q < w4.heap.size := by
              obtain ⟨e1, e2, e3, e4, e5⟩ := hV4
              by_cases hi : i < (M.hisM N (M.eaL l L (k + 1))).length
              · exact (own_lt (e3 i hi) hq).2
              · rw [List.getD_eq_getElem?_getD, List.getElem?_eq_none (by omega)] at hq
                simp [Value.ownBlock] at hq
            rcases hn4 i q hq with e1 | e1
            · exact ⟨(ap3 i q e1).1, hlt⟩
            · refine ⟨fun hb => ?_, hlt⟩
              have := (own_lt HLo.out hb).2
              omega
          have HV4 := Lib.hid hV4
          have hsz4 : w.heap.size + 1 ≤ w4.heap.size := by omega
          clear hb4 hk4 hn4 hV4 hkeep x0 x2 y0 y1 ap1 ap2 ap3 HLo HAp
          go_wp2_with (at_builtin; refine append1L _ rfl (.tmp 47) (.tmp 52) rfl (w.heap.size + 1) _ _ _ k HLl.out rfl HLo4.out rfl (by omega) hsz4 ?_)
          intro q c' w5 hO5 hb5 hk5 hat5
          rw [← HLk.out] at hO5
          have HO5 := Lib.hid hO5
          obtain ⟨ap1, ap2, ap3⟩ := HAp4.out
          have HV5 : Hid (OwnV w5 (w.heap.size + 1) (.slice (some ⟨ge, 0, none⟩) N N) (M.hisM N (M.eaL l L (k + 1))) V') := HV4.out.keepX fun z hz => by
            rcases hz with hz | ⟨i, -, hz⟩
            · simp only [Value.ownBlock, Option.some.injEq] at hz
              subst hz
              exact hk5 _ ap2 ap1
            · exact hk5 _ (ap3 i z hz).2 (ap3 i z hz).1
          have HAp5 : Hid (Apt w5 (.slice (some ⟨q, 0, none⟩) (k + 1) c') ge V') := by
            have hz5 := hb5.size
            refine ⟨fun e1 => ?_, by omega, fun i z hz => ⟨fun e1 => ?_, by have := (ap3 i z hz).2; omega⟩⟩
            · simp only [Value.ownBlock, Option.some.injEq] at e1
              rcases hat5 with e2 | e2
              · exact ap1 (by rw [← e1]; exact e2)
              · omega
            · simp only [Value.ownBlock, Option.some.injEq] at e1
              rcases hat5 with e2 | e2
              · exact (ap3 i z hz).1 (by rw [← e1]; exact e2)
              · have := (ap3 i z hz).2; omega
          have HG5 : Hid (GBox w5 w.heap.size N a n cap) := by
            have hne : (Value.slice b k c).ownBlock ≠ some w.heap.size := fun e1 => absurd (own_lt HLo4.out e1).1 (by omega)
            have e1 := hk5 w.heap.size (by omega) hne
            exact ⟨(World.cell?_of_block (a := ⟨w.heap.size, 0, none⟩) e1).trans HG4.out.1, (World.cell?_of_block (a := ⟨w.heap.size, 1, none⟩) e1).trans HG4.out.2⟩
          have HB5 := Lib.hid (HB4.out.trans (hb5.mono (Nat.le_succ _)))
          clear hO5 hb5 hk5 hat5 ap1 ap2 ap3 u2
          go_wp2
          go_roundw
          case rel => exact ⟨k + 1, _, _, _, by omega, by go_num, rfl, HF2, HO5, HV5, HAp5, HG5, HB5⟩
          case measure => simp [intOf]; omega
      · obtain rfl : k = fn := by omega
        have HE : Hid (Z = (M.latK l L k, 0)) := by show _ = _; rw [HZ.out, M.few_yes (fun i hi => HFw.out i (by rw [← HLn.out]; exact hi))]; rfl
        have HOf := Lib.hid (HLo.out.mono (Nat.le_succ w.heap.size))
        go_wp2
        go_ret2
        rw [HE.out]
        exact ⟨_, _, _, rfl, HOf.out, HB.out⟩
  · have h0' : (C != 0) = true := by simpa using h0
    have HR : Hid (M.latRes x l L = ([], C)) := M.latRes_no HCe.out.symm h0
    go_enter Try.func32, Try.ntmps32
    go_wp2_with fail
    rw [← hwb]
    clear hwb
    refine (HC.out).mono ?_
    rintro z w1 ⟨hb1, v, rfl, hn, -⟩
    obtain rfl := hn (by first | exact h0 | trivial)
    have HB1 := Lib.hid (HB0.out.trans (hb1.mono HB0.out.size))
    clear hb1 hn h0
    go_wp2
    go_ret2
    exact VRes.nil HR.out HB1.out
end V
end Go.Proofs.Ytjbffpmelglegaa
