/- Texts laid together: Rcf. -/
import Derived.Test.YtjbffpmelglegaaQa43
import Derived.Test.YtjbffpmelglegaaQa44
import Derived.Deep.RegionWith
import Derived.StillTailTactics
set_option linter.unusedSimpArgs false
set_option linter.unusedVariables false
set_option linter.unusedSectionVars false
namespace Go.Proofs.Ytjbffpmelglegaa
namespace V
set_option maxRecDepth 100000
open Go.RowKit
/-- A row is appended to an owned matrix; its value lies in the last cell. -/
theorem OwnV.cellC {w : World} {B : Nat} {a : Option Addr} {n cap : Nat} {R : List (List Int)} {V : List Value} (h : OwnV w B (.slice a n cap) R V) (i : Nat) (hi : i < n) :
    ∃ g ra rc, a = some ⟨g, 0, none⟩ ∧ V.getD i (.slice none 0 0) = .slice ra (R.getD i []).length rc ∧ w.cell? ⟨g, i, none⟩ = some (.slice ra (R.getD i []).length rc) := by
  obtain ⟨h1, h2, h3, h4, h5⟩ := h
  obtain ⟨a', c', hv, hc, hm, hg⟩ := own_form h2
  injection hv with e1 e2 e3
  subst e1 e2 e3
  obtain ⟨g, rfl, hB, hlt⟩ := hg (by omega)
  obtain ⟨ra, rc, hv, hI⟩ := (h3 i hi).ints
  refine ⟨g, ra, rc, rfl, hv, ?_⟩
  have := World.ownsRow.cellAt h2 i (by omega)
  rw [this, ← hv]
  simp [h1, hi]
theorem appendRowC (w0 w : World) {ops : Array Oper} {rest : List Oper} {o : Oper} {a : Act} {Q : Exit → Act → World → Prop} (hgd : o.guard = none) (s x : Operand)
    (ho : o.op = .call { callee := .builtin .append, args := #[s, x], argTypes := #[111, 111] }) (B : Nat) (v : Value) (ra : Option Addr) (L rc : Nat) (R : List (List Int)) (l : List Int) (n : Nat) (hn : R.length = n) (hs : a.eval s = v) (hown : OwnM w0 B v R) (hb : Below w0.heap.size w0 w) (hro : Own w w0.heap.size (.slice ra L rc) l)
    (hx : a.eval x = .slice (some ⟨w.heap.size, 0, none⟩) 1 1) (hlen : R.length ≤ 2000000) (hB : B ≤ w0.heap.size)
    (h : ∀ g' c' w', OwnM w' B (.slice (some ⟨g', 0, none⟩) (n + 1) c') (R ++ [l]) → w'.cell? ⟨g', n, none⟩ = some (.slice ra L rc) → Below B w w' → wpList Try.prog ops Q rest (a.put o.dst (.slice (some ⟨g', 0, none⟩) (n + 1) c')) w') :
    wpList Try.prog ops Q (o :: rest) a (w.alloc (.cells #[.slice ra L rc] 24)) := by
  subst hn
  obtain ⟨i0, hi, hz0, hz1, hz2⟩ := info_parts infoS64
  have hsz := hb.size
  obtain ⟨V, h1, h2, h3⟩ := hown
  have hwV : w.ownsRow B 24 1 v R.length V := ownsRow_keep h2 (fun k hv => hb.block k (own_lt h2 hv).2)
  have hown2 : (w.alloc (.cells #[.slice ra L rc] 24)).ownsRow B 24 1 v R.length V := World.ownsRow.alloc hwV _
  refine wpList_append_own_at (w := w.alloc (.cells #[.slice ra L rc] 24)) hgd s x 111 ho B 24 i0 (.slice none 0 0) 1 24 Try.underlying111 hi hz0 hz1 hz2 rfl (by decide) v _ _ hs hown2 ⟨w.heap.size, 0, none⟩ 1 1 [.slice ra L rc] hx rfl (cell_one_new _ _ _) ?c2 ?c3 ?c4 ?c5 ?_
  case c2 => intro u hu; simp at hu; subst hu; rfl
  case c3 => unfold maxLen; omega
  case c4 => omega
  case c5 => simp; omega
  · intro v' w' hownV' hgrow hz hvb
    obtain ⟨g1, g2, g3, g4, g5⟩ := hgrow
    have hg : ∀ k, k < w.heap.size → v.ownBlock ≠ some k → w'.heap[k]? = w.heap[k]? := fun k hk hne => by
      rw [g5 k (by simp; omega) (fun e => hne e.symm), Below.heap_alloc _ _ _ hk]
    have hV : OwnV w' B v' (R ++ [l]) (V ++ [.slice ra L rc]) :=
      OwnV.snocV (q := (w.alloc (.cells #[.slice ra L rc] 24)).heap.size) ⟨h1, h2, h3⟩ hb hB hro (by simpa using hownV') hg hvb (by simp)
    have hM : OwnM w' B v' (R ++ [l]) := ⟨_, hV⟩
    obtain ⟨b', c', hv', _⟩ := hM.form
    rw [show (R ++ [l]).length = R.length + 1 by simp] at hv'
    subst hv'
    obtain ⟨g, ra', rc', rfl, e1, e2⟩ := hV.cellC R.length (by omega)
    have e3 : (V ++ [Value.slice ra L rc]).getD R.length (.slice none 0 0) = .slice ra L rc := by
      rw [List.getD_eq_getElem?_getD, ← h1]; simp
    rw [e3] at e1
    exact h g c' w' hM (by rw [e2, ← e1]) (((Below.refl B w).alloc (by omega) _).grown ⟨g1, g2, g3, g4, g5⟩ (by simp; omega) (fun k hk => (own_lt h2 hk).1))
set_option maxRecDepth 100000 in
set_option maxHeartbeats 1000000 in
theorem ttAt (a : Option Addr) (n cap : Nat) (R : List (List Int)) (r j : Nat) (num : Int) (hnum : num = (r : Int) + 1) (w : World) (h : Mat w a n R) (hr : r < n) (hj : j < (R.getD r []).length) (hn : n ≤ 1000) (hL : (R.getD r []).length ≤ 1000) :
    Calls Try.prog 100 #[.slice a n cap, .int .i64 j, .int .i64 num] w fun e w' => e = .returned (.int .i64 ((R.getD r []).getD j 0)) ∧ w' = w := by
  obtain ⟨b, off, rb, ro, L, rc, x, rfl, hLe, hx, c1, c2⟩ := h.ent r j hr hj
  have hw : wrap64 (num - 1) = (r : Int) := by rw [hnum, IntWalk.wrap64_in _ ⟨by omega, by omega⟩]; omega
  have hri : (r : Int) < (n : Int) := by omega
  have hji : (j : Int) < (L : Int) := by omega
  have HX := Lib.hid hx
  clear hx hLe hL h hnum hr hj
  go_enter Try.func100, Try.ntmps100
  go_wp2
  go_ret
  exact ⟨by rw [← HX.out]; rfl, rfl⟩
set_option maxRecDepth 100000 in
set_option maxHeartbeats 4000000 in
theorem readyTime (N : Nat) (a : Option Addr) (n cap : Nat) (l : List M.Pc) (k e : Nat) (least : Int) (ta : Option Addr) (tc : Nat) (F : Nat → Nat → Int) (w : World) (h : Pls w a n l) (hg : M.isGr (N : Int) l = true) (hM : Mat w ta k (M.mk k N fun r x => F (r + 1) x)) (hk : k ≤ 50) (hF : ∀ r x, 0 ≤ F r x ∧ F r x ≤ 2000000) (hl0 : 0 ≤ least ∧ least ≤ 2000000) :
    Calls Try.prog 78 #[.agg #[.int .i64 N, .slice a n cap], .int .i64 e, .int .i64 k, .int .i64 least, .func (.func 100) #[.slice ta k tc] #[]] w fun z w' => z = .returned (.int .i64 (M.rd F k e l least)) ∧ Below w.heap.size w w' := by
  have HI := Lib.hid h
  have HL : Hid (l.length = n) := h.1
  have HG := Lib.hid hg
  obtain ⟨n1, n2, hl30⟩ := gr_N hg
  have hn30 : n ≤ 30 := by rw [h.1] at hl30; exact hl30
  have hb0 := b_alloc w (.cells #[.int .i64 N, .slice a n cap] 41)
  have hGb := gBox_new w N a n cap 41
  obtain ⟨wb, hwb⟩ : ∃ z, z = w.alloc (.cells #[.int .i64 N, .slice a n cap] 41) := ⟨_, rfl⟩
  rw [← hwb] at hb0 hGb
  have HB0 := Lib.hid hb0
  have HM := Lib.hid hM
  have HF := Lib.hid hF
  have HR0 : Hid (M.rd F k e (l.take 0) least = least) := rfl
  have HWb := Lib.hid hwb.symm
  obtain ⟨g0, g1⟩ := hGb
  rw [hwb] at g0 g1
  have HLe := Lib.hid hl0
  clear h hg hl30 hb0 hM hF hwb hl0
  go_enter Try.func78, Try.ntmps78
  go_wp2
  rw [HWb.out]
  clear g0 g1
  go_loopw [11, 18] (fun rv kv wr => ∃ i : Nat, i ≤ n ∧ kv = .int .i64 i ∧ rv = .int .i64 (M.rd F k e (l.take i) least) ∧ Hid (Below w.heap.size w wr)) (fun _ kv _ => n - (intOf kv).toNat)
  case atStart => exact ⟨0, Nat.zero_le _, rfl, by rw [HR0.out], HB0⟩
  case round =>
    obtain ⟨i, hi, rfl, rfl, HB⟩ := hrel
    obtain ⟨wo, rfl⟩ : ∃ x, x = wr := ⟨_, rfl⟩
    by_cases hil : i < n
    · have hii : (i : Int) < (n : Int) := by omega
      obtain ⟨pb, off, p0, p1, p2, p3, rfl, -, hp, c0, c1, c2, c3⟩ := (HI.out.below HB.out).at i hil
      obtain ⟨e', j, he', hj, rfl, rfl, t2, t2', t3, t3'⟩ := gr_at HG.out (by rw [HL.out]; exact hil) hp
      obtain ⟨v, hv⟩ : ∃ v, v = M.rd F k e (l.take i) least := ⟨_, rfl⟩
      rw [← hv]
      have hbp : Below wo.heap.size wo (wo.alloc (.cells #[.int .i64 j, .int .i64 e', .int .i64 p2, .int .i64 p3] 52)) := b_alloc wo _
      have HBn := Lib.hid (HB.out.trans (hbp.mono HB.out.size))
      by_cases hte : e' = e
      · have hte' : ((e' : Int) == (e : Int)) = true := by simp [hte]
        by_cases htk : p3 < (k : Int)
        · have htk' : (k : Int) > p3 := htk
          have HN : Hid (M.rd F k e (l.take (i + 1)) least = max v (F (k - p3.toNat) j + p2)) := by
            show _ = _
            rw [hv]
            exact M.rd_yes F l least (by rw [HL.out]; exact hil) hp (by rw [hte]) htk
          have hrow : ((M.mk k N fun r x => F (r + 1) x).getD (k - p3.toNat - 1) []).length = N := M.mk_rowlen _ _ _ _ (by omega)
          obtain ⟨u, hu⟩ : ∃ u, u = F (k - p3.toNat) j := ⟨_, rfl⟩
          have hub : 0 ≤ u ∧ u ≤ 2000000 := by rw [hu]; exact HF.out _ _
          rw [← hu] at HN
          obtain ⟨wp, hwp⟩ : ∃ z, z = wo.alloc (.cells #[.int .i64 j, .int .i64 e', .int .i64 p2, .int .i64 p3] 52) := ⟨_, rfl⟩
          have x0 : wp.cell? ⟨wo.heap.size, 0, none⟩ = some (.int .i64 j) := by rw [hwp]; simp [go_sem]
          have x1 : wp.cell? ⟨wo.heap.size, 1, none⟩ = some (.int .i64 e') := by rw [hwp]; simp [go_sem]
          have x2 : wp.cell? ⟨wo.heap.size, 2, none⟩ = some (.int .i64 p2) := by rw [hwp]; simp [go_sem]
          have x3 : wp.cell? ⟨wo.heap.size, 3, none⟩ = some (.int .i64 p3) := by rw [hwp]; simp [go_sem]
          rw [← hwp] at HBn
          have HAt : Hid (Calls Try.prog 100 #[.slice ta k tc, .int .i64 j, .int .i64 ((k : Int) - p3)] wp.drew fun e w' => e = .returned (.int .i64 u) ∧ w' = wp.drew) := by
            have := ttAt ta k tc (M.mk k N fun r x => F (r + 1) x) (k - p3.toNat - 1) j ((k : Int) - p3) (by omega) wp.drew ((HM.out.below HBn.out).below (b_draws wp 1)) (by omega) (by rw [hrow]; exact hj) (by omega) (by rw [hrow]; omega)
            rw [M.mk_ent _ _ _ _ _ (by omega) hj, show k - p3.toNat - 1 + 1 = k - p3.toNat by omega, ← hu] at this
            exact this
          have HWp := Lib.hid hwp.symm
          have hw1 : wrap64 ((k : Int) - p3) = (k : Int) - p3 := IntWalk.wrap64_in _ ⟨by omega, by omega⟩
          have hw1' : IntKind.i64.wrap ((k : Int) - p3) = (k : Int) - p3 := IntWalk.i64_in _ (by omega)
          have hw2 : wrap64 (u + p2) = u + p2 := IntWalk.wrap64_in _ ⟨by omega, by omega⟩
          have hw2' : IntKind.i64.wrap (u + p2) = u + p2 := IntWalk.i64_in _ (by omega)
          clear hp hv hu hub hrow hwp hbp hte
          go_wp2
          rw [HWp.out]
          go_still_tail 13, (by kernel_rfl)
          still_call (HAt.out)
          repeat still_step
          refine wpStill_nil ?_
          change wpList _ _ _ _ _ wp.drew
          go_wp2
          go_roundw
          case rel =>
            refine ⟨i + 1, by omega, by go_num, ?_, HBn.out.drew⟩
            rw [HN.out]
            congr 1
            split <;> omega
          case measure => simp [intOf]; omega
        · have htk' : ¬ (k : Int) > p3 := htk
          have HN : Hid (M.rd F k e (l.take (i + 1)) least = v) := by
            show _ = _
            rw [hv]
            exact M.rd_no F l least (by rw [HL.out]; exact hil) hp (fun q => htk q.2)
          clear hp hv hbp hte
          go_wp2
          go_roundw
          case rel => exact ⟨i + 1, by omega, by go_num, by rw [HN.out], HBn⟩
          case measure => simp [intOf]; omega
      · have hte' : ((e' : Int) == (e : Int)) = false := by simp; omega
        have HN : Hid (M.rd F k e (l.take (i + 1)) least = v) := by
          show _ = _
          rw [hv]
          exact M.rd_no F l least (by rw [HL.out]; exact hil) hp (fun q => hte (by have := q.1; omega))
        clear hp hv hbp hte
        go_wp2
        go_roundw
        case rel => exact ⟨i + 1, by omega, by go_num, by rw [HN.out], HBn⟩
        case measure => simp [intOf]; omega
    · obtain rfl : i = n := by omega
      have HE : Hid (l.take i = l) := List.take_of_length_le (by rw [HL.out]; exact Nat.le_refl _)
      rw [HE.out]
      go_wp2
      go_ret
      exact ⟨rfl, HB.out⟩
set_option maxRecDepth 100000 in
set_option maxHeartbeats 4000000 in
theorem firingTimesU (N : Nat) (a : Option Addr) (n cap : Nat) (l : List M.Pc) (nn : Nat) (oa : Option Addr) (oc : Nat) (st : Nat → Int) (w : World) (h : Pls w a n l) (hg : M.isGr (N : Int) l = true) (hnp : M.noPos (M.wtF M.fOne l) N = true) (hnn : nn ≤ 50)
    (hO : Ints .i64 w oa N (M.ordL (M.wtF M.fOne l) N N)) (hst : ∀ e, 0 ≤ st e ∧ st e ≤ 1000000)
    (hsf : ∀ e : Nat, e < N → ∀ w', Below w.heap.size w w' → Calls Try.prog 93 #[.int .i64 e] w' fun z w'' => z = .returned (.int .i64 (st e)) ∧ w'' = w') :
    Calls Try.prog 92 #[.agg #[.int .i64 N, .slice a n cap], .int .i64 nn, .slice oa N oc, .func (.func 93) #[] #[]] w (MPost nn (M.timM l (M.ordL (M.wtF M.fOne l) N N) st N nn) w) := by
  have HI := Lib.hid h
  have HG := Lib.hid hg
  obtain ⟨n1, n2, hl30⟩ := gr_N hg
  have hol := M.ord_full (M.uz_graph l) n2 hnp (Nat.le_refl N)
  have hdl := (M.gr_plOk hg).delays
  obtain ⟨ord, hord⟩ : ∃ o, o = M.ordL (M.wtF M.fOne l) N N := ⟨_, rfl⟩
  have HAt : Hid (∀ t, t < N → ∃ e : Nat, e < N ∧ ord.getD t 0 = (e : Int)) := fun t ht => by
    obtain ⟨e, he, h1, -⟩ := M.ord_at (M.uz_graph l) n2 hnp ht
    exact ⟨e, he, by rw [hord]; exact h1⟩
  rw [← hord] at hol hO ⊢
  have HOl := Lib.hid hol
  have HBd : Hid (∀ k t r x, k ≤ 50 → t ≤ N → 0 ≤ M.rowT l ord st (M.tabT l ord st k) (k + 1) t r x ∧ M.rowT l ord st (M.tabT l ord st k) (k + 1) t r x ≤ 2000000) := fun k t r x hk ht => by
    have b1 := M.tabT_bd l ord st (S := 1000000) (by omega) hdl hst k
    have b2 := M.rowT_bd l ord st (k := k + 1) (t := t) hdl hst (c := k * ord.length) b1 r x
    have b3 : k * ord.length ≤ 50 * 10 := Nat.mul_le_mul hk (by omega)
    omega
  have HSt := Lib.hid hst
  have HSf := Lib.hid hsf
  have HO := Lib.hid hO
  have hb0 := b_alloc w (.cells #[.int .i64 N, .slice a n cap] 41)
  have hGb := gBox_new w N a n cap 41
  obtain ⟨wb, hwb⟩ : ∃ z, z = w.alloc (.cells #[.int .i64 N, .slice a n cap] 41) := ⟨_, rfl⟩
  rw [← hwb] at hb0 hGb
  have HB0 := Lib.hid hb0
  have HGb := Lib.hid hGb
  have HWb := Lib.hid hwb.symm
  have HT0 : Hid (OwnM wb wb.heap.size (.slice none 0 0) (M.timM l ord st N 0)) := ownM_nil _ _
  clear h hg hl30 hb0 hGb hwb hol hdl hO hst hsf hord hnp
  go_enter Try.func92, Try.ntmps92
  go_wp2
  rw [HWb.out]
  go_loopw [9, 10] (fun tv kv wr => ∃ (k : Nat) (tb : Option Addr) (tc : Nat), k ≤ nn ∧ kv = .int .i64 ((k : Int) + 1) ∧ tv = .slice tb k tc ∧ Hid (OwnM wr wb.heap.size tv (M.timM l ord st N k)) ∧ Hid (Below wb.heap.size wb wr)) (fun _ kv _ => nn + 1 - (intOf kv).toNat)
  case atStart => exact ⟨0, _, _, Nat.zero_le _, rfl, rfl, HT0, Below.refl _ _⟩
  case round =>
    clear HT0
    obtain ⟨k, tb, tc, hk, rfl, rfl, HT, HB⟩ := hrel
    obtain ⟨wo, rfl⟩ : ∃ x, x = wr := ⟨_, rfl⟩
    by_cases hkn : k < nn
    · have hki : (k : Int) + 1 ≤ (nn : Int) := by omega
      obtain ⟨g0, g1⟩ := HGb.out.below HB.out
      have hsz := HB.out.size
      have hmk := run_make_row' (P := Try.prog) 24 2 (.int .i64 0) 8 Try.underlying24 info64 rfl .i64 .i64 N (by omega) (by omega)
      have HRow : Hid (Own (wo.alloc (.cells (madeCells #[.int .i64 0] N) 2)) wo.heap.size (.slice (some ⟨wo.heap.size, 0, none⟩) N N) ((List.range N).map fun _ => 0)) := own_made wo _ N (Nat.le_refl _) (by unfold maxLen; omega)
      have HTl : Hid ((M.timM l ord st N k).length = k) := M.mk_length _ _ _
      have HBa : Hid (Below wo.heap.size wo (wo.alloc (.cells (madeCells #[.int .i64 0] N) 2))) := b_alloc _ _
      obtain ⟨wr1, hwr1⟩ : ∃ z, z = wo.alloc (.cells (madeCells #[.int .i64 0] N) 2) := ⟨_, rfl⟩
      rw [← hwr1] at HRow HBa
      have HWr := Lib.hid hwr1.symm
      clear hwr1
      go_upto_region 6 with fail
      rw [HWr.out]
      go_wp2_with (at_builtin; refine appendRowC wo _ rfl (.tmp 22) (.tmp 24) rfl wb.heap.size _ _ _ _ _ _ k HTl.out rfl HT.out HBa.out HRow.out rfl (by rw [HTl.out]; omega) hsz ?_)
      intro og oc1 w1 hO1 hc1 hb1
      have e0 : (List.range N).map (fun _ => (0 : Int)) = List.replicate N 0 := by
        apply List.ext_getElem
        · simp
        · intro i h1 h2; simp
      rw [e0, ← M.timM_row0] at hO1
      clear e0
      have HO1 := Lib.hid hO1
      have HC1 := Lib.hid hc1
      have HB1 := Lib.hid ((HB.out.trans (HBa.out.mono hsz)).trans hb1)
      clear hO1 hc1 hb1 g0 g1 hmk
      go_wp2
      go_loopw [28] (fun iv wr => ∃ t : Nat, t ≤ N ∧ iv = .int .i64 t ∧ Hid (OwnM wr wb.heap.size (.slice (some ⟨og, 0, none⟩) (k + 1) oc1) (M.mk (k + 1) N fun r x => M.rowT l ord st (M.tabT l ord st k) (k + 1) t (r + 1) x)) ∧ Hid (wr.cell? ⟨og, k, none⟩ = some (.slice (some ⟨wo.heap.size, 0, none⟩) N N)) ∧ Hid (Below wb.heap.size wb wr)) (fun iv _ => N - (intOf iv).toNat)
      case atStart => exact ⟨0, Nat.zero_le _, rfl, HO1, HC1, HB1⟩
      case round =>
        clear HO1 HC1 HB1
        obtain ⟨t, ht, rfl, HOt, HCt, HBt⟩ := hrel
        obtain ⟨wt, rfl⟩ : ∃ x, x = wr := ⟨_, rfl⟩
        by_cases htN : t < N
        · have hti : (t : Int) < (N : Int) := by omega
          obtain ⟨e, he, hoe⟩ := HAt.out t htN
          have hei : (e : Int) < (N : Int) := by omega
          have HBw := Lib.hid (HB0.out.trans (HBt.out.mono HB0.out.size))
          obtain ⟨ob, oo, y, hbo, hol, hy, hoc⟩ := HO.out.at t htN
          rw [hoe] at hy
          subst hy hbo
          have hoc' := (HBw.out.cell (p := ⟨ob, oo + t, none⟩) hol).trans hoc
          obtain ⟨g0, g1⟩ := HGb.out.below HBt.out
          obtain ⟨F, hF⟩ : ∃ F, F = M.rowT l ord st (M.tabT l ord st k) (k + 1) t := ⟨_, rfl⟩
          have HFb : Hid (∀ r x, 0 ≤ F r x ∧ F r x ≤ 2000000) := fun r x => by rw [hF]; exact HBd.out k t r x (by omega) ht
          have HSet : Hid ((M.mk (k + 1) N fun r x => F (r + 1) x).set k (((M.mk (k + 1) N fun r x => F (r + 1) x).getD k []).set e (M.rd F (k + 1) e l (st e))) = M.mk (k + 1) N fun r x => M.rowT l ord st (M.tabT l ord st k) (k + 1) (t + 1) (r + 1) x) := by
            show _ = _
            rw [hF]
            exact M.timM_set l ord st N k hoe _
          rw [← hF] at HOt
          clear hF
          have hrow : ((M.mk (k + 1) N fun r x => F (r + 1) x).getD k []).length = N := M.mk_rowlen _ _ _ _ (by omega)
          obtain ⟨o', q', L', rc', y', ho', ho1, hq1, hL', -, m1, m2, m3, -⟩ := HOt.out.at k e (by omega) (by rw [hrow]; exact he)
          injection ho' with ho'
          injection ho' with ho'
          subst ho'
          rw [HCt.out] at m1
          injection m1 with m1
          injection m1 with m1 m1' m1''
          injection m1 with m1
          injection m1 with m1
          subst m1
          have hne := HOt.out.rowNe (i := k) (by omega) HCt.out
          have HNe := Lib.hid hne
          have HRw := Lib.hid hrow
          have hql := cell_lt m2
          obtain ⟨se, hse⟩ : ∃ s, s = st e := ⟨_, rfl⟩
          have hsb : 0 ≤ se ∧ se ≤ 2000000 := by rw [hse]; have := HSt.out e; omega
          have HCs : Hid (∀ w', Below w.heap.size w w' → Calls Try.prog 93 #[.int .i64 e] w' fun z w'' => z = .returned (.int .i64 se) ∧ w'' = w') := fun w' hb' => by rw [hse]; exact HSf.out e he w' hb'
          have HCr : Hid (∀ w', Below wt.heap.size wt w' → Calls Try.prog 78 #[.agg #[.int .i64 N, .slice a n cap], .int .i64 e, .int .i64 ((k : Int) + 1), .int .i64 se, .func (.func 100) #[.slice (some ⟨og, 0, none⟩) (k + 1) oc1] #[]] w' fun z w'' => z = .returned (.int .i64 (M.rd F (k + 1) e l se)) ∧ Below w'.heap.size w' w'') := fun w' hb' =>
            readyTime N a n cap l (k + 1) e se (some ⟨og, 0, none⟩) oc1 F w' (HI.out.below (HBw.out.trans (hb'.mono HBw.out.size))) HG.out ((HOt.out.below hb').mat) (by omega) HFb.out hsb
          rw [← hse] at HSet
          obtain ⟨v, hv⟩ : ∃ v, v = M.rd F (k + 1) e l se := ⟨_, rfl⟩
          rw [← hv] at HCr HSet
          have HFin : Hid (∀ wx, Below wt.heap.size wt wx → Hid (OwnM (wx.setCell ⟨wo.heap.size, e, none⟩ (.int .i64 v)) wb.heap.size (.slice (some ⟨og, 0, none⟩) (k + 1) oc1) (M.mk (k + 1) N fun r x => M.rowT l ord st (M.tabT l ord st k) (k + 1) (t + 1) (r + 1) x)) ∧ Hid ((wx.setCell ⟨wo.heap.size, e, none⟩ (.int .i64 v)).cell? ⟨og, k, none⟩ = some (.slice (some ⟨wo.heap.size, 0, none⟩) N N)) ∧ Hid (Below wb.heap.size wb (wx.setCell ⟨wo.heap.size, e, none⟩ (.int .i64 v)))) := fun wx hbx => by
            refine ⟨?_, ?_, ?_⟩
            · show OwnM _ _ _ _
              rw [← HSet.out]
              exact (HOt.out.below hbx).put (by omega) (by rw [HRw.out]; exact he) ((hbx.cell (cell_lt HCt.out)).trans HCt.out) _
            · show _ = _
              have e2 : (wx.setCell ⟨wo.heap.size, e, none⟩ (.int .i64 v)).heap[og]? = wx.heap[og]? := Below.heap_setCell _ _ _ _ (by have := HNe.out; exact this)
              exact (World.cell?_of_block (a := ⟨og, k, none⟩) e2).trans ((hbx.cell (cell_lt HCt.out)).trans HCt.out)
            · exact (HBt.out.trans (hbx.mono HBt.out.size)).setCell (p := ⟨wo.heap.size, e, none⟩) hsz _
          clear hse hsb hv hrow hne hol hoc hoe m1' m1'' hL'
          go_wp2
          go_region_with (first
            | (go_at_call 93; refine (HCs.out _ (HBw.out.trans ((b_draws wt 1).mono HBw.out.size))).mono ?_; rintro z w' ⟨rfl, rfl⟩)
            | (go_at_call 78; refine (HCr.out _ (b_draws wt 1)).mono ?_; rintro z wx ⟨rfl, hbx⟩; have HBx := Lib.hid ((b_draws wt 1).trans hbx); have yq := (HBx.out.cell hql).trans m2; have yf := (HBx.out.frozen hql).trans m3; clear hbx))
          all_goals
            go_wp2
            go_roundw
            case rel =>
              obtain ⟨f1, f2, f3⟩ := HFin.out _ HBx.out
              exact ⟨t + 1, by omega, by go_num, f1, f2, f3⟩
            case measure => simp [intOf]; omega
        · obtain rfl : t = N := by omega
          have HE : Hid (M.timM l ord st t (k + 1) = M.mk (k + 1) t fun r x => M.rowT l ord st (M.tabT l ord st k) (k + 1) t (r + 1) x) := by show _ = _; rw [M.timM_next, HOl.out]
          rw [← HE.out] at HOt
          go_wp2
          go_roundw
          case rel => exact ⟨k + 1, _, _, by omega, by go_num, rfl, HOt, HBt⟩
          case measure => simp [intOf]; omega
    · obtain rfl : k = nn := by omega
      go_wp2
      go_ret
      exact ⟨_, _, rfl, HT.out.mono HB0.out.size, HB0.out.trans (HB.out.mono HB0.out.size)⟩
set_option maxRecDepth 100000 in
set_option maxHeartbeats 4000000 in
theorem firingTimesS (N : Nat) (a : Option Addr) (n cap : Nat) (l : List M.Pc) (nn : Nat) (oa : Option Addr) (oc : Nat) (E : Nat) (st : Nat → Int) (w : World) (h : Pls w a n l) (hg : M.isGr (N : Int) l = true) (hnp : M.noPos (M.wtF M.fOne l) N = true) (hnn : nn ≤ 50)
    (hO : Ints .i64 w oa N (M.ordL (M.wtF M.fOne l) N N)) (hst : ∀ e, 0 ≤ st e ∧ st e ≤ 1000000)
    (hsf : ∀ e : Nat, e < N → ∀ w', Below w.heap.size w w' → Calls Try.prog 105 #[.int .i64 e, .pointer (some ⟨E, 0, none⟩)] w' fun z w'' => z = .returned (.int .i64 (st e)) ∧ w'' = w') :
    Calls Try.prog 92 #[.agg #[.int .i64 N, .slice a n cap], .int .i64 nn, .slice oa N oc, .func (.func 105) #[] #[.pointer (some ⟨E, 0, none⟩)]] w (MPost nn (M.timM l (M.ordL (M.wtF M.fOne l) N N) st N nn) w) := by
  have HI := Lib.hid h
  have HG := Lib.hid hg
  obtain ⟨n1, n2, hl30⟩ := gr_N hg
  have hol := M.ord_full (M.uz_graph l) n2 hnp (Nat.le_refl N)
  have hdl := (M.gr_plOk hg).delays
  obtain ⟨ord, hord⟩ : ∃ o, o = M.ordL (M.wtF M.fOne l) N N := ⟨_, rfl⟩
  have HAt : Hid (∀ t, t < N → ∃ e : Nat, e < N ∧ ord.getD t 0 = (e : Int)) := fun t ht => by
    obtain ⟨e, he, h1, -⟩ := M.ord_at (M.uz_graph l) n2 hnp ht
    exact ⟨e, he, by rw [hord]; exact h1⟩
  rw [← hord] at hol hO ⊢
  have HOl := Lib.hid hol
  have HBd : Hid (∀ k t r x, k ≤ 50 → t ≤ N → 0 ≤ M.rowT l ord st (M.tabT l ord st k) (k + 1) t r x ∧ M.rowT l ord st (M.tabT l ord st k) (k + 1) t r x ≤ 2000000) := fun k t r x hk ht => by
    have b1 := M.tabT_bd l ord st (S := 1000000) (by omega) hdl hst k
    have b2 := M.rowT_bd l ord st (k := k + 1) (t := t) hdl hst (c := k * ord.length) b1 r x
    have b3 : k * ord.length ≤ 50 * 10 := Nat.mul_le_mul hk (by omega)
    omega
  have HSt := Lib.hid hst
  have HSf := Lib.hid hsf
  have HO := Lib.hid hO
  have hb0 := b_alloc w (.cells #[.int .i64 N, .slice a n cap] 41)
  have hGb := gBox_new w N a n cap 41
  obtain ⟨wb, hwb⟩ : ∃ z, z = w.alloc (.cells #[.int .i64 N, .slice a n cap] 41) := ⟨_, rfl⟩
  rw [← hwb] at hb0 hGb
  have HB0 := Lib.hid hb0
  have HGb := Lib.hid hGb
  have HWb := Lib.hid hwb.symm
  have HT0 : Hid (OwnM wb wb.heap.size (.slice none 0 0) (M.timM l ord st N 0)) := ownM_nil _ _
  clear h hg hl30 hb0 hGb hwb hol hdl hO hst hsf hord hnp
  go_enter Try.func92, Try.ntmps92
  go_wp2
  rw [HWb.out]
  go_loopw [9, 10] (fun tv kv wr => ∃ (k : Nat) (tb : Option Addr) (tc : Nat), k ≤ nn ∧ kv = .int .i64 ((k : Int) + 1) ∧ tv = .slice tb k tc ∧ Hid (OwnM wr wb.heap.size tv (M.timM l ord st N k)) ∧ Hid (Below wb.heap.size wb wr)) (fun _ kv _ => nn + 1 - (intOf kv).toNat)
  case atStart => exact ⟨0, _, _, Nat.zero_le _, rfl, rfl, HT0, Below.refl _ _⟩
  case round =>
    clear HT0
    obtain ⟨k, tb, tc, hk, rfl, rfl, HT, HB⟩ := hrel
    obtain ⟨wo, rfl⟩ : ∃ x, x = wr := ⟨_, rfl⟩
    by_cases hkn : k < nn
    · have hki : (k : Int) + 1 ≤ (nn : Int) := by omega
      obtain ⟨g0, g1⟩ := HGb.out.below HB.out
      have hsz := HB.out.size
      have hmk := run_make_row' (P := Try.prog) 24 2 (.int .i64 0) 8 Try.underlying24 info64 rfl .i64 .i64 N (by omega) (by omega)
      have HRow : Hid (Own (wo.alloc (.cells (madeCells #[.int .i64 0] N) 2)) wo.heap.size (.slice (some ⟨wo.heap.size, 0, none⟩) N N) ((List.range N).map fun _ => 0)) := own_made wo _ N (Nat.le_refl _) (by unfold maxLen; omega)
      have HTl : Hid ((M.timM l ord st N k).length = k) := M.mk_length _ _ _
      have HBa : Hid (Below wo.heap.size wo (wo.alloc (.cells (madeCells #[.int .i64 0] N) 2))) := b_alloc _ _
      obtain ⟨wr1, hwr1⟩ : ∃ z, z = wo.alloc (.cells (madeCells #[.int .i64 0] N) 2) := ⟨_, rfl⟩
      rw [← hwr1] at HRow HBa
      have HWr := Lib.hid hwr1.symm
      clear hwr1
      go_upto_region 6 with fail
      rw [HWr.out]
      go_wp2_with (at_builtin; refine appendRowC wo _ rfl (.tmp 22) (.tmp 24) rfl wb.heap.size _ _ _ _ _ _ k HTl.out rfl HT.out HBa.out HRow.out rfl (by rw [HTl.out]; omega) hsz ?_)
      intro og oc1 w1 hO1 hc1 hb1
      have e0 : (List.range N).map (fun _ => (0 : Int)) = List.replicate N 0 := by
        apply List.ext_getElem
        · simp
        · intro i h1 h2; simp
      rw [e0, ← M.timM_row0] at hO1
      clear e0
      have HO1 := Lib.hid hO1
      have HC1 := Lib.hid hc1
      have HB1 := Lib.hid ((HB.out.trans (HBa.out.mono hsz)).trans hb1)
      clear hO1 hc1 hb1 g0 g1 hmk
      go_wp2
      go_loopw [28] (fun iv wr => ∃ t : Nat, t ≤ N ∧ iv = .int .i64 t ∧ Hid (OwnM wr wb.heap.size (.slice (some ⟨og, 0, none⟩) (k + 1) oc1) (M.mk (k + 1) N fun r x => M.rowT l ord st (M.tabT l ord st k) (k + 1) t (r + 1) x)) ∧ Hid (wr.cell? ⟨og, k, none⟩ = some (.slice (some ⟨wo.heap.size, 0, none⟩) N N)) ∧ Hid (Below wb.heap.size wb wr)) (fun iv _ => N - (intOf iv).toNat)
      case atStart => exact ⟨0, Nat.zero_le _, rfl, HO1, HC1, HB1⟩
      case round =>
        clear HO1 HC1 HB1
        obtain ⟨t, ht, rfl, HOt, HCt, HBt⟩ := hrel
        obtain ⟨wt, rfl⟩ : ∃ x, x = wr := ⟨_, rfl⟩
        by_cases htN : t < N
        · have hti : (t : Int) < (N : Int) := by omega
          obtain ⟨e, he, hoe⟩ := HAt.out t htN
          have hei : (e : Int) < (N : Int) := by omega
          have HBw := Lib.hid (HB0.out.trans (HBt.out.mono HB0.out.size))
          obtain ⟨ob, oo, y, hbo, hol, hy, hoc⟩ := HO.out.at t htN
          rw [hoe] at hy
          subst hy hbo
          have hoc' := (HBw.out.cell (p := ⟨ob, oo + t, none⟩) hol).trans hoc
          obtain ⟨g0, g1⟩ := HGb.out.below HBt.out
          obtain ⟨F, hF⟩ : ∃ F, F = M.rowT l ord st (M.tabT l ord st k) (k + 1) t := ⟨_, rfl⟩
          have HFb : Hid (∀ r x, 0 ≤ F r x ∧ F r x ≤ 2000000) := fun r x => by rw [hF]; exact HBd.out k t r x (by omega) ht
          have HSet : Hid ((M.mk (k + 1) N fun r x => F (r + 1) x).set k (((M.mk (k + 1) N fun r x => F (r + 1) x).getD k []).set e (M.rd F (k + 1) e l (st e))) = M.mk (k + 1) N fun r x => M.rowT l ord st (M.tabT l ord st k) (k + 1) (t + 1) (r + 1) x) := by
            show _ = _
            rw [hF]
            exact M.timM_set l ord st N k hoe _
          rw [← hF] at HOt
          clear hF
          have hrow : ((M.mk (k + 1) N fun r x => F (r + 1) x).getD k []).length = N := M.mk_rowlen _ _ _ _ (by omega)
          obtain ⟨o', q', L', rc', y', ho', ho1, hq1, hL', -, m1, m2, m3, -⟩ := HOt.out.at k e (by omega) (by rw [hrow]; exact he)
          injection ho' with ho'
          injection ho' with ho'
          subst ho'
          rw [HCt.out] at m1
          injection m1 with m1
          injection m1 with m1 m1' m1''
          injection m1 with m1
          injection m1 with m1
          subst m1
          have hne := HOt.out.rowNe (i := k) (by omega) HCt.out
          have HNe := Lib.hid hne
          have HRw := Lib.hid hrow
          have hql := cell_lt m2
          obtain ⟨se, hse⟩ : ∃ s, s = st e := ⟨_, rfl⟩
          have hsb : 0 ≤ se ∧ se ≤ 2000000 := by rw [hse]; have := HSt.out e; omega
          have HCs : Hid (∀ w', Below w.heap.size w w' → Calls Try.prog 105 #[.int .i64 e, .pointer (some ⟨E, 0, none⟩)] w' fun z w'' => z = .returned (.int .i64 se) ∧ w'' = w') := fun w' hb' => by rw [hse]; exact HSf.out e he w' hb'
          have HCr : Hid (∀ w', Below wt.heap.size wt w' → Calls Try.prog 78 #[.agg #[.int .i64 N, .slice a n cap], .int .i64 e, .int .i64 ((k : Int) + 1), .int .i64 se, .func (.func 100) #[.slice (some ⟨og, 0, none⟩) (k + 1) oc1] #[]] w' fun z w'' => z = .returned (.int .i64 (M.rd F (k + 1) e l se)) ∧ Below w'.heap.size w' w'') := fun w' hb' =>
            readyTime N a n cap l (k + 1) e se (some ⟨og, 0, none⟩) oc1 F w' (HI.out.below (HBw.out.trans (hb'.mono HBw.out.size))) HG.out ((HOt.out.below hb').mat) (by omega) HFb.out hsb
          rw [← hse] at HSet
          obtain ⟨v, hv⟩ : ∃ v, v = M.rd F (k + 1) e l se := ⟨_, rfl⟩
          rw [← hv] at HCr HSet
          have HFin : Hid (∀ wx, Below wt.heap.size wt wx → Hid (OwnM (wx.setCell ⟨wo.heap.size, e, none⟩ (.int .i64 v)) wb.heap.size (.slice (some ⟨og, 0, none⟩) (k + 1) oc1) (M.mk (k + 1) N fun r x => M.rowT l ord st (M.tabT l ord st k) (k + 1) (t + 1) (r + 1) x)) ∧ Hid ((wx.setCell ⟨wo.heap.size, e, none⟩ (.int .i64 v)).cell? ⟨og, k, none⟩ = some (.slice (some ⟨wo.heap.size, 0, none⟩) N N)) ∧ Hid (Below wb.heap.size wb (wx.setCell ⟨wo.heap.size, e, none⟩ (.int .i64 v)))) := fun wx hbx => by
            refine ⟨?_, ?_, ?_⟩
            · show OwnM _ _ _ _
              rw [← HSet.out]
              exact (HOt.out.below hbx).put (by omega) (by rw [HRw.out]; exact he) ((hbx.cell (cell_lt HCt.out)).trans HCt.out) _
            · show _ = _
              have e2 : (wx.setCell ⟨wo.heap.size, e, none⟩ (.int .i64 v)).heap[og]? = wx.heap[og]? := Below.heap_setCell _ _ _ _ (by have := HNe.out; exact this)
              exact (World.cell?_of_block (a := ⟨og, k, none⟩) e2).trans ((hbx.cell (cell_lt HCt.out)).trans HCt.out)
            · exact (HBt.out.trans (hbx.mono HBt.out.size)).setCell (p := ⟨wo.heap.size, e, none⟩) hsz _
          clear hse hsb hv hrow hne hol hoc hoe m1' m1'' hL'
          go_wp2
          go_region_with (first
            | (go_at_call 105; refine (HCs.out _ (HBw.out.trans ((b_draws wt 1).mono HBw.out.size))).mono ?_; rintro z w' ⟨rfl, rfl⟩)
            | (go_at_call 78; refine (HCr.out _ (b_draws wt 1)).mono ?_; rintro z wx ⟨rfl, hbx⟩; have HBx := Lib.hid ((b_draws wt 1).trans hbx); have yq := (HBx.out.cell hql).trans m2; have yf := (HBx.out.frozen hql).trans m3; clear hbx))
          all_goals
            go_wp2
            go_roundw
            case rel =>
              obtain ⟨f1, f2, f3⟩ := HFin.out _ HBx.out
              exact ⟨t + 1, by omega, by go_num, f1, f2, f3⟩
            case measure => simp [intOf]; omega
        · obtain rfl : t = N := by omega
          have HE : Hid (M.timM l ord st t (k + 1) = M.mk (k + 1) t fun r x => M.rowT l ord st (M.tabT l ord st k) (k + 1) t (r + 1) x) := by show _ = _; rw [M.timM_next, HOl.out]
          rw [← HE.out] at HOt
          go_wp2
          go_roundw
          case rel => exact ⟨k + 1, _, _, by omega, by go_num, rfl, HOt, HBt⟩
          case measure => simp [intOf]; omega
    · obtain rfl : k = nn := by omega
      go_wp2
      go_ret
      exact ⟨_, _, rfl, HT.out.mono HB0.out.size, HB0.out.trans (HB.out.mono HB0.out.size)⟩
end V
end Go.Proofs.Ytjbffpmelglegaa
