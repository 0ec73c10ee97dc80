/- Texts laid together: Lvi. -/
import Derived.Test.YtobdgboejbbfiaaQa28
import Derived.Test.YtobdgboejbbfiaaQa30
import Derived.Test.YtobdgboejbbfiaaQa11
import Derived.Deep.RegionHeld3
import Derived.StillTailTactics
set_option linter.unusedSimpArgs false
set_option linter.unusedVariables false
set_option linter.unusedSectionVars false
namespace Go.Proofs.Ytobdgboejbbfiaa
namespace M
def levRes (x : Int) (l : List Pc) : List Int × Int := if isGr x l then (if liveB (wtF fOne l) x.toNat then (levL (wtF fOne l) x.toNat, 0) else ([], 5)) else ([], 1)
theorem levRes_len (x : Int) (l : List Pc) : (levRes x l).1.length ≤ 30 := by
  unfold levRes
  split
  · next h =>
    split
    · have hx : x.toNat ≤ 10 := by
        unfold isGr inB at h
        simp only [Bool.and_eq_true, decide_eq_true_eq] at h
        omega
      show (levL (wtF fOne l) x.toNat).length ≤ 30
      simp [levL]; omega
    · simp
  · simp
theorem lev_none {x : Int} {l : List Pc} (h : lvCode x l ≠ 0) : levRes x l = ([], lvCode x l) := by
  have h2 := lv_none h
  unfold ordRes at h2
  unfold levRes
  split
  · next hg =>
    rw [if_pos hg] at h2
    split
    · next hl => rw [if_pos hl] at h2; exact absurd (Prod.mk.inj h2).2.symm h
    · next hl => rw [if_neg hl] at h2; exact h2
  · next hg => rw [if_neg hg] at h2; exact h2
end M
namespace V
set_option maxRecDepth 100000
open Go.RowKit
theorem M.topN_sum (f : Nat → Int) (h : -1000000000000000 ≤ f 0) (m : Nat) : M.topN f m = M.sumN (m + 1) f := by
  induction m with
  | zero => show f 0 = max (-1000000000000000) (f 0); omega
  | succ m ih => show max _ _ = max _ _; rw [ih]
theorem M.top_lev {l : List M.Pc} {N i : Nat} (n1 : 1 ≤ N) (n2 : N ≤ 10) (hp : M.noPos (M.wtF M.fOne l) N = true) (hi : i < N) : M.topN (fun j => ((M.starM (M.wtM M.fOne N l) N).getD i []).getD j 0) (N - 1) = M.lev (M.wtF M.fOne l) N i := by
  have hs : ∀ j, j < N → ((M.starM (M.wtM M.fOne N l) N).getD i []).getD j 0 = M.starF (M.wtF M.fOne l) N i j := fun j hj => M.wt_star M.fOne hi hj
  have h0 := M.star_sm n2 (fun i j _ _ => M.uz_sm (M.uz_graph l) i j) hp hi (j := 0) n1
  rw [M.topN_sum _ (by rw [hs 0 n1]; unfold M.Sm at h0; omega), show N - 1 + 1 = N by omega]
  exact M.sumN_congr hs
theorem keep2 {w0 w1 w2 : World} {G : Nat} {i j : Nat} {p q : Value} (h : w1.cell? ⟨G, i, none⟩ = some p ∧ w1.cell? ⟨G, j, none⟩ = some q ∧ Below w0.heap.size w0 w1) (hb : Below w1.heap.size w1 w2) :
    w2.cell? ⟨G, i, none⟩ = some p ∧ w2.cell? ⟨G, j, none⟩ = some q ∧ Below w0.heap.size w0 w2 := by
  obtain ⟨h1, h2, h5⟩ := h
  exact ⟨(hb.cell (cell_lt h1)).trans h1, (hb.cell (cell_lt h2)).trans h2, h5.trans (hb.mono h5.size)⟩
set_option maxRecDepth 100000 in
set_option maxHeartbeats 4000000 in
theorem levelsOf (x : Int) (a : Option Addr) (n cap : Nat) (l : List M.Pc) (w : World) (h : Pls w a n l) :
    Calls Try.prog 21 #[.agg #[.int .i64 x, .slice a n cap]] w (VRes (M.levRes x l) w) := by
  have HI := Lib.hid h
  have hb0 := b_alloc w (.cells #[.int .i64 x, .slice a n cap] 26)
  have hG := gBox_new w x a n cap 26
  obtain ⟨wb, hwb⟩ : ∃ z, z = w.alloc (.cells #[.int .i64 x, .slice a n cap] 26) := ⟨_, rfl⟩
  rw [← hwb] at hb0 hG
  obtain ⟨r, hr⟩ : ∃ r, r = M.isGr x l := ⟨_, rfl⟩
  have HS : Hid (Calls Try.prog 62 #[.agg #[.int .i64 x, .slice a n cap]] wb fun e w' => e = .returned (.bool r) ∧ Below wb.heap.size wb w') := by rw [hr]; exact isEventGraph x a n cap l wb (h.below hb0)
  have HG := Lib.hid hG
  have HB0 := Lib.hid hb0
  have HRr := Lib.hid hr
  clear h hG hb0 hr
  cases r with
  | false =>
    have HR : Hid (M.levRes x l = ([], 1)) := by show _ = _; unfold M.levRes; rw [← HRr.out]; rfl
    go_enter Try.func21, Try.ntmps21
    go_wp2_with fail
    rw [← hwb]
    clear hwb
    refine (HS.out).mono ?_
    rintro e w1 ⟨rfl, hb1⟩
    have HB1 := Lib.hid (HB0.out.trans (hb1.mono HB0.out.size))
    obtain ⟨g0, g1⟩ := HG.out.below hb1
    clear hb1
    go_wp2
    go_ret2
    exact VRes.nil HR.out HB1.out
  | true =>
    obtain ⟨N, hN, n1, n2⟩ := gr_nat HRr.out.symm
    replace hN := hN.symm
    subst hN
    have HSq : Hid (M.sqB (M.wtM M.fOne N l) = true) := M.wt_isMat n1 n2 fun p _ => M.one_val p
    obtain ⟨v, hv⟩ : ∃ v, v = M.liveB (M.wtF M.fOne l) N := ⟨_, rfl⟩
    have HR : Hid (M.levRes (N : Int) l = if v then (M.levL (M.wtF M.fOne l) N, 0) else ([], 5)) := by show _ = _; unfold M.levRes; rw [← HRr.out, hv]; rfl
    have HNp : Hid (M.noPos (M.wtF M.fOne l) N = v) := by show _ = _; rw [hv, M.live_is (M.uz_graph l) n2]
    have HSt : Hid (M.starL (M.wtM M.fOne N l) N = if v then (M.starM (M.wtM M.fOne N l) N, true) else ([], false)) := by
      show _ = _
      unfold M.starL
      rw [M.wt_noPos, HNp.out]
    clear hv
    cases v with
    | false =>
      go_enter Try.func21, Try.ntmps21
      go_wp2_with fail
      rw [← hwb]
      clear hwb
      refine (HS.out).mono ?_
      rintro e w1 ⟨rfl, hb1⟩
      have HB1 := Lib.hid (HB0.out.trans (hb1.mono HB0.out.size))
      obtain ⟨g0, g1⟩ := HG.out.below hb1
      clear hb1
      go_wp2_with fail
      refine (tokenless N a n cap l w1 (HI.out.below HB1.out) HRr.out.symm).mono ?_
      rintro e w2 ⟨b2, c2, rfl, ho, hb2⟩
      have HQ2 := Lib.hid (sq_of ho.mat HSq.out)
      have HB2 := Lib.hid (HB1.out.trans (hb2.mono HB1.out.size))
      clear g0 g1 ho hb2
      go_wp2_with fail
      refine (starOf _ _ _ _ _ HQ2.out).mono ?_
      rintro e w3 ⟨b3, n3, c3, rfl, -, hb3⟩
      rw [HSt.out]
      have HB3 := Lib.hid (HB2.out.trans (hb3.mono HB2.out.size))
      clear hb3
      go_wp2
      go_ret2
      exact VRes.nil HR.out HB3.out
    | true =>
      have HSt2 : Hid (M.starL (M.wtM M.fOne N l) N = (M.starM (M.wtM M.fOne N l) N, true)) := HSt.out.trans (by rfl)
      have HR2 : Hid (M.levRes (N : Int) l = (M.levL (M.wtF M.fOne l) N, 0)) := HR.out.trans (by rfl)
      clear HSt HR
      go_enter Try.func21, Try.ntmps21
      go_wp2_with fail
      rw [← hwb]
      clear hwb
      refine (HS.out).mono ?_
      rintro e w1 ⟨rfl, hb1⟩
      have HB1 := Lib.hid (HB0.out.trans (hb1.mono HB0.out.size))
      obtain ⟨g0, g1⟩ := HG.out.below hb1
      clear hb1
      go_wp2_with fail
      refine (tokenless N a n cap l w1 (HI.out.below HB1.out) HRr.out.symm).mono ?_
      rintro e w2 ⟨b2, c2, rfl, ho, hb2⟩
      have HQ2 := Lib.hid (sq_of ho.mat HSq.out)
      have HB2 := Lib.hid (HB1.out.trans (hb2.mono HB1.out.size))
      clear g0 g1 ho hb2
      go_wp2_with fail
      refine (starOf _ _ _ _ _ HQ2.out).mono ?_
      rintro e w3 ⟨b3, n3, c3, rfl, ho, hb3⟩
      rw [HSt2.out] at ho ⊢
      have hn3 : n3 = N := by rw [ho.len]; exact M.mk_length _ _ _
      subst hn3
      have HM3 := Lib.hid ho.mat
      have HB3 := Lib.hid (HB2.out.trans (hb3.mono HB2.out.size))
      have HO0 : Hid (Own w3 w3.heap.size (.slice none 0 0) (M.levK (M.wtF M.fOne l) n3 0)) := own_nil _ _
      clear ho hb3
      go_wp2
      go_loopw [6, 8, 22] (fun o _ i wr => ∃ (t : Nat) (ob : Option Addr) (oc : Nat), t ≤ n3 ∧ i = .int .i64 t ∧ o = .slice ob t oc ∧ Hid (Own wr w3.heap.size o (M.levK (M.wtF M.fOne l) n3 t)) ∧ Hid (Below w3.heap.size w3 wr)) (fun _ _ i _ => n3 - (intOf i).toNat)
      case atStart => exact ⟨0, _, _, Nat.zero_le _, rfl, rfl, HO0, Below.refl _ _⟩
      case round =>
        obtain ⟨t, ob, oc, ht, rfl, rfl, HO, HB⟩ := hrel
        obtain ⟨wo, rfl⟩ : ∃ x, x = wr := ⟨_, rfl⟩
        clear HO0
        by_cases htN : t < n3
        · have hti : (t : Int) < (n3 : Int) := by omega
          obtain ⟨sb, so, ra, rc, L, row, rfl, -, hrow, hc, hI⟩ := (HM3.out.below HB.out).at t htN
          have hL : L = n3 := by rw [← hI.1, hrow]; exact M.mk_rowlen _ _ _ _ htN
          subst hL
          have hMx := slicesMax ra L rc row wo hI n1
          rw [hrow, M.top_lev n1 n2 HNp.out htN] at hMx
          have HMx := Lib.hid hMx
          have HNe := Lib.hid (M.levK_next (M.wtF M.fOne l) L t)
          have HLl := Lib.hid (M.levK_len (M.wtF M.fOne l) L t)
          obtain ⟨y, hy⟩ : ∃ y, y = M.lev (M.wtF M.fOne l) L t := ⟨_, rfl⟩
          rw [← hy] at HMx HNe
          have hsz := HB.out.size
          clear hI hrow hMx hy
          go_wp2_with (first
            | (go_at_call 71; refine (HMx.out).mono ?_; rintro e w' ⟨rfl, rfl⟩)
            | (at_builtin; refine append1 _ rfl (.tmp 26) (.tmp 29) rfl w3.heap.size _ _ _ t HLl.out rfl HO.out rfl (by rw [HLl.out]; omega) hsz ?_))
          intro b4 c4 w4 hO4 hb4 _
          rw [← HNe.out] at hO4
          have HO4 := Lib.hid hO4
          have HB4 := Lib.hid (HB.out.trans hb4)
          clear hO4 hb4
          go_wp2
          go_roundw
          case rel => exact ⟨t + 1, _, _, by omega, by go_num, rfl, HO4, HB4⟩
          case measure => simp [intOf]; omega
        · obtain rfl : t = n3 := by omega
          go_wp2
          go_ret2
          rw [HR2.out]
          exact ⟨_, _, _, rfl, HO.out.mono HB3.out.size, HB3.out.trans (HB.out.mono HB3.out.size)⟩
set_option maxRecDepth 100000 in
set_option maxHeartbeats 8000000 in
theorem sLevelsOf (x : Int) (a : Option Addr) (n cap : Nat) (l : List M.Pc) (w : World) (h : Pls w a n l) :
    Calls Try.prog 22 #[.agg #[.int .i64 x, .slice a n cap]] w (VRes (M.levRes x l) w) := by
  have HI := Lib.hid h
  have hb0 := b_alloc w (.cells #[.int .i64 x, .slice a n cap] 26)
  have hG := gBox_new w x a n cap 26
  obtain ⟨wb, hwb⟩ : ∃ z, z = w.alloc (.cells #[.int .i64 x, .slice a n cap] 26) := ⟨_, rfl⟩
  rw [← hwb] at hb0 hG
  obtain ⟨cd, hcd⟩ : ∃ c, c = M.lvCode x l := ⟨_, rfl⟩
  have HS : Hid (Calls Try.prog 64 #[.agg #[.int .i64 x, .slice a n cap]] wb fun e w' => e = .returned (.int .i64 cd) ∧ Below wb.heap.size wb w') := by rw [hcd]; exact sLive x a n cap l wb (h.below hb0)
  have HCd := Lib.hid hcd
  have HG := Lib.hid hG
  have HB0 := Lib.hid hb0
  clear h hG hb0 hcd
  by_cases h0 : cd = 0
  · obtain ⟨hg, hlv⟩ := M.lv_zero (HCd.out.symm.trans h0)
    obtain ⟨N, hN, n1, n2⟩ := gr_nat hg
    replace hN := hN.symm
    subst hN h0
    have hU := M.uz_graph l
    have hp : M.noPos (M.wtF M.fOne l) N = true := by rw [← M.live_is hU n2]; exact hlv
    have HR : Hid (M.levRes (N : Int) l = (M.outS (M.wtF M.fOne l) N N, 0)) := by show _ = _; unfold M.levRes; rw [if_pos hg, if_pos hlv, M.outS_end hU n2 hp]; rfl
    have HCo := Lib.hid (sOrder N a n cap l · · hg hp)
    have HCf := Lib.hid (sFree N a n cap l · · hg)
    have HAt : Hid (∀ t, t < N → ∃ e : Nat, e < N ∧ (M.ordL (M.wtF M.fOne l) N N).getD t 0 = (e : Int) ∧ M.ordL (M.wtF M.fOne l) N (t + 1) = M.ordL (M.wtF M.fOne l) N t ++ [(e : Int)] ∧ M.hasB (M.ordL (M.wtF M.fOne l) N t) (e : Int) = false ∧ ∀ k, k < N → M.wtF M.fOne l e k ≠ -1000000000000000 → M.hasB (M.ordL (M.wtF M.fOne l) N t) (k : Int) = true) := fun t ht => M.ord_at hU n2 hp ht
    have HEnd : Hid (∀ t e, e < N → M.ordL (M.wtF M.fOne l) N (t + 1) = M.ordL (M.wtF M.fOne l) N t ++ [(e : Int)] → M.midO (M.wtF M.fOne l) N t e N = M.outS (M.wtF M.fOne l) N (t + 1)) := fun t e he ho => M.midO_end hU n2 hp he ho
    have HBd : Hid (∀ i, i < N → 0 ≤ M.lev (M.wtF M.fOne l) N i ∧ M.lev (M.wtF M.fOne l) N i ≤ 11000011000000) := fun i hi => M.lev_bd hU n2 hp hi
    have HUz : Hid (∀ i j, M.wtF M.fNil l i j = 0 ∨ M.wtF M.fNil l i j = -1000000000000000) := fun i j => by rcases hU i j with ⟨-, q⟩ | ⟨-, q⟩; exact .inr q; exact .inl q
    have HU2 : Hid (∀ i j, M.wtF M.fNil l i j = -1000000000000000 ↔ M.wtF M.fOne l i j = -1000000000000000) := fun i j => by
      rcases M.uz_graph l i j with ⟨q1, q2⟩ | ⟨q1, q2⟩ <;> rw [q1, q2] <;> simp
    clear hg hlv hU hp
    have hmk := run_make_row' (P := Try.prog) 28 2 (.int .i64 0) 8 Try.underlying28 info64 rfl .i64 .i64 N (by omega) (by omega)
    go_enter Try.func22, Try.ntmps22
    go_wp2_with fail
    rw [← hwb]
    clear hwb
    refine (HS.out).mono ?_
    rintro e w1 ⟨rfl, hb1⟩
    have HB1 := Lib.hid (HB0.out.trans (hb1.mono HB0.out.size))
    have HG1 := Lib.hid (HG.out.below hb1)
    obtain ⟨g0, g1⟩ := HG1.out
    clear hb1
    go_wp2
    go_region_held3 (fun w' => w'.cell? ⟨w.heap.size, 0, none⟩ = some (.int .i64 N) ∧ w'.cell? ⟨w.heap.size, 1, none⟩ = some (.slice a n cap) ∧ Below w1.heap.size w1 w')
      (first | exact ⟨g0, g1, (Below.refl _ _).drew⟩ | exact keep2 ‹_ ∧ _ ∧ Below _ _ _› hbo | exact keep2 ‹_ ∧ _ ∧ Below _ _ _› hbf)
      (first
        | (go_at_call 65; refine (HCo.out _ ?hp).mono ?_; (case hp => exact HI.out.below (HB1.out.trans ((‹_ ∧ _ ∧ Below _ _ _›).2.2.mono HB1.out.size))); rintro e wo1 ⟨bq, cq, rfl, ho, hbo⟩; have HOo := Lib.hid ho; have HBo := Lib.hid hbo; clear ho)
        | (go_at_call 72; refine (HCf.out _ ?hp).mono ?_; (case hp => exact HI.out.below (HB1.out.trans ((‹_ ∧ _ ∧ Below _ _ _›).2.2.mono HB1.out.size))); rintro e wf1 ⟨bf, cf, rfl, hf, hbf⟩; have HMf := Lib.hid hf; have HBf := Lib.hid hbf; clear hf))
    have HQi : Hid (Ints .i64 wf1 bq N (M.ordL (M.wtF M.fOne l) N N)) := Lib.hid (HOo.out.below HBf.out).ints'
    have HBz : Hid (Below w1.heap.size w1 wf1) := ((b_draws w1 1).trans HBo.out).trans (HBf.out.mono HBo.out.size)
    have HGz := Lib.hid (HG1.out.below HBz.out)
    have HE : Hid (∀ i j, i < N → j < N → ∃ o q rc, bf = some ⟨o, 0, none⟩ ∧ wf1.cell? ⟨o, i, none⟩ = some (.slice (some ⟨q, 0, none⟩) N rc) ∧ wf1.cell? ⟨q, j, none⟩ = some (.int .i64 (M.wtF M.fNil l i j)) ∧ o < wf1.heap.size ∧ q < wf1.heap.size) := fun i j hi hj => by
      have hrow : ((M.wtM M.fNil N l).getD i []).length = N := M.mk_rowlen _ _ _ _ hi
      obtain ⟨o, q, L, rc, y, hba, ho1, hq1, hL, hy, m1, m2, -, -⟩ := HMf.out.at i j hi (by rw [hrow]; exact hj)
      rw [hrow] at hL
      subst hL
      have hy2 : y = M.wtF M.fNil l i j := by rw [hy]; exact M.wt_ent M.fNil hi hj
      subst hy2
      exact ⟨o, q, rc, hba, m1, m2, cell_lt m1, cell_lt m2⟩
    obtain ⟨bo, -, -, hbb, -⟩ := HE.out 0 0 n1 n1
    subst hbb
    obtain ⟨qb, qo, -, hqq, -, -, -⟩ := HQi.out.at 0 n1
    subst hqq
    have HQ : Hid (∀ t, t < N → wf1.cell? ⟨qb, qo + t, none⟩ = some (.int .i64 ((M.ordL (M.wtF M.fOne l) N N).getD t 0)) ∧ qb < wf1.heap.size) := fun t ht => by
      obtain ⟨qb', qo', y, hqq, hlt, hy, hc⟩ := HQi.out.at t ht
      injection hqq with hqq
      injection hqq with e1 e2
      subst e1 e2
      rw [hy] at hc
      exact ⟨hc, hlt⟩
    have HO0 : Hid (Own (wf1.alloc (.cells (madeCells #[.int .i64 0] N) 2)) wf1.heap.size (.slice (some ⟨wf1.heap.size, 0, none⟩) N N) (M.outS (M.wtF M.fOne l) N 0)) := by
      rw [M.outS_zero]; exact own_made wf1 _ N (Nat.le_refl _) (by unfold maxLen; omega)
    have HB00 : Hid (Below wf1.heap.size wf1 (wf1.alloc (.cells (madeCells #[.int .i64 0] N) 2))) := b_alloc wf1 _
    clear g0 g1
    obtain ⟨g0, g1⟩ := HGz.out
    go_wp2
    clear g0 g1 hmk
    go_loopw [8, 9] (fun i _ wr => ∃ t : Nat, t ≤ N ∧ i = .int .i64 t ∧ Hid (Own wr wf1.heap.size (.slice (some ⟨wf1.heap.size, 0, none⟩) N N) (M.outS (M.wtF M.fOne l) N t)) ∧ Hid (Below wf1.heap.size wf1 wr)) (fun i _ _ => N - (intOf i).toNat)
    case atStart => exact ⟨0, Nat.zero_le _, rfl, HO0, HB00⟩
    case round =>
      obtain ⟨t, ht, rfl, HO, HB⟩ := hrel
      obtain ⟨wo, rfl⟩ : ∃ x, x = wr := ⟨_, rfl⟩
      clear HO0 HB00
      by_cases htN : t < N
      · have hti : (t : Int) < (N : Int) := by omega
        obtain ⟨e, heN, heq, hon, hhe, hpre⟩ := HAt.out t htN
        have hei : (e : Int) < (N : Int) := by omega
        have HPre := Lib.hid hpre
        have HHe := Lib.hid hhe
        have HNext := Lib.hid (HEnd.out t e heN hon)
        have HOm : Hid (Own wo wf1.heap.size (.slice (some ⟨wf1.heap.size, 0, none⟩) N N) (M.midO (M.wtF M.fOne l) N t e 0)) := by rw [M.midO_start hhe]; exact HO
        obtain ⟨hqc, hql⟩ := HQ.out t htN
        rw [heq] at hqc
        have HQt := Lib.hid hqc
        have HQl := Lib.hid hql
        clear heq hon hhe hpre hqc hql
        go_wp2
        go_loopw [9] (fun k wr => ∃ m : Nat, m ≤ N ∧ k = .int .i64 m ∧ Hid (Own wr wf1.heap.size (.slice (some ⟨wf1.heap.size, 0, none⟩) N N) (M.midO (M.wtF M.fOne l) N t e m)) ∧ Hid (Below wf1.heap.size wf1 wr)) (fun k _ => N - (intOf k).toNat)
        case atStart => exact ⟨0, Nat.zero_le _, rfl, HOm, HB⟩
        case round =>
          clear HO HOm HB
          obtain ⟨m, hm, rfl, HO, HB⟩ := hrel
          obtain ⟨wi, rfl⟩ : ∃ x, x = wr := ⟨_, rfl⟩
          obtain ⟨g0, g1⟩ := HGz.out.below HB.out
          by_cases hmN : m < N
          · have hmi : (m : Int) < (N : Int) := by omega
            obtain ⟨o', q, rc, hoo, m1, m2, ho3, hq3⟩ := HE.out e m heN hmN
            injection hoo with hoo
            injection hoo with hoo
            subst hoo
            have d1 := (HB.out.cell (p := ⟨bo, e, none⟩) ho3).trans m1
            have d2 := (HB.out.cell (p := ⟨q, m, none⟩) hq3).trans m2
            have d3 := (HB.out.cell (p := ⟨qb, qo + t, none⟩) HQl.out).trans HQt.out
            obtain ⟨z, hz⟩ : ∃ z, z = M.wtF M.fNil l e m := ⟨_, rfl⟩
            rw [← hz] at d2
            have hzz := HUz.out e m
            have hzo := HU2.out e m
            rw [← hz] at hzz hzo
            clear hz m1 m2
            by_cases hzb : z = -1000000000000000
            · have hne : M.wtF M.fOne l e m = -1000000000000000 := hzo.1 hzb
              have HSk := Lib.hid (M.midO_skip (N := N) (t := t) hne)
              have hz1 : (z == 0) = false := by rw [hzb]; rfl
              rw [← HSk.out] at HO
              clear hzb hzz hzo hne
              go_wp2
              go_roundw
              case rel => exact ⟨m + 1, by omega, by go_num, HO, HB⟩
              case measure => simp [intOf]; omega
            · have hz0 : z = 0 := by rcases hzz with q | q; exact q; exact absurd q hzb
              have hne : M.wtF M.fOne l e m ≠ -1000000000000000 := fun q => hzb (hzo.2 q)
              subst hz0
              have hmt := HPre.out m hmN hne
              have hme : m ≠ e := fun q => by subst q; rw [HHe.out] at hmt; cases hmt
              have c1 := HO.out.cellAt e heN
              have c2 := HO.out.cellAt m hmN
              have f1 := HO.out.frozenAt e
              rw [M.midO_at_e _ heN] at c1
              rw [M.midO_at _ hmN hme hmt] at c2
              have hset := M.midO_set (t := t) heN hne
              obtain ⟨lv, hlv⟩ : ∃ x, x = M.lvP (M.wtF M.fOne l) N e m := ⟨_, rfl⟩
              have hb := HBd.out m hmN
              obtain ⟨lm, hlm⟩ : ∃ x, x = M.lev (M.wtF M.fOne l) N m := ⟨_, rfl⟩
              rw [← hlv] at c1 hset
              rw [← hlm] at c2 hset hb
              have hw : IntKind.i64.wrap (lm + 1) = lm + 1 := IntWalk.i64_in _ (by omega)
              have hw' : wrap64 (lm + 1) = lm + 1 := IntWalk.wrap64_in _ (by omega)
              have HN : Hid (∀ v, v = max lv (lm + 1) → Own (wi.setCell ⟨wf1.heap.size, e, none⟩ (.int .i64 v)) wf1.heap.size (.slice (some ⟨wf1.heap.size, 0, none⟩) N N) (M.midO (M.wtF M.fOne l) N t e (m + 1))) := fun v hv => by rw [← hset, ← hv]; exact HO.out.set e v
              have HBn : Hid (∀ v, Below wf1.heap.size wf1 (wi.drew.setCell ⟨wf1.heap.size, e, none⟩ (.int .i64 v))) := fun v => HB.out.drew.setCell (p := ⟨wf1.heap.size, e, none⟩) (Nat.le_refl _) _
              clear hzb hzz hzo hne hmt hme hset hlv hlm hb
              go_wp2
              go_still_tail 19, (by kernel_rfl)
              change wpList _ _ _ _ _ wi.drew
              go_wp2
              go_roundw
              case rel => exact ⟨m + 1, by omega, by go_num, (HN.out _ (by split <;> omega)).keep (fun _ _ _ => rfl), HBn.out _⟩
              case measure => simp [intOf]; omega
          · obtain rfl : m = N := by omega
            rw [HNext.out] at HO
            go_wp2
            go_roundw
            case rel => exact ⟨t + 1, by omega, by go_num, HO, HB⟩
            case measure => simp [intOf]; omega
      · obtain rfl : t = N := by omega
        go_wp2
        go_ret2
        rw [HR.out]
        exact ⟨_, _, _, rfl, HO.out.mono (Nat.le_trans HB1.out.size HBz.out.size), (HB1.out.trans (HBz.out.mono HB1.out.size)).trans (HB.out.mono (Nat.le_trans HB1.out.size HBz.out.size))⟩
  · have HR : Hid (M.levRes x l = ([], cd)) := by show _ = _; rw [HCd.out]; exact M.lev_none (by rw [← HCd.out]; exact h0)
    have hb : (cd != 0) = true := by simpa using h0
    go_enter Try.func22, Try.ntmps22
    go_wp2_with fail
    rw [← hwb]
    clear hwb
    refine (HS.out).mono ?_
    rintro e w1 ⟨rfl, hb1⟩
    have HB1 := Lib.hid (HB0.out.trans (hb1.mono HB0.out.size))
    obtain ⟨g0, g1⟩ := HG.out.below hb1
    clear hb1
    go_wp2
    go_ret2
    exact VRes.nil HR.out HB1.out
end V
end Go.Proofs.Ytobdgboejbbfiaa
