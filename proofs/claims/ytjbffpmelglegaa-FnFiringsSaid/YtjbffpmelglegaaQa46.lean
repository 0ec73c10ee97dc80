/- Texts laid together: Rcg. -/
import Derived.Test.YtjbffpmelglegaaQa43
import Derived.Test.YtjbffpmelglegaaQa44
import Derived.Test.YtjbffpmelglegaaQa14
import Derived.BigQuiet
import Derived.StillTailTactics
set_option linter.unusedSimpArgs false
set_option linter.unusedVariables false
set_option linter.unusedSectionVars false
namespace Go.Proofs.Ytjbffpmelglegaa
namespace V
set_option maxRecDepth 100000
open Go.RowKit
/-- A row is appended to an owned matrix; its value lies in the last cell. -/
theorem OwnV.cellS {w : World} {B : Nat} {a : Option Addr} {n cap : Nat} {R : List (List Int)} {V : List Value} (h : OwnV w B (.slice a n cap) R V) (i : Nat) (hi : i < n) :
    ∃ g ra rc, a = some ⟨g, 0, none⟩ ∧ V.getD i (.slice none 0 0) = .slice ra (R.getD i []).length rc ∧ w.cell? ⟨g, i, none⟩ = some (.slice ra (R.getD i []).length rc) := by
  obtain ⟨h1, h2, h3, h4, h5⟩ := h
  obtain ⟨a', c', hv, hc, hm, hg⟩ := own_form h2
  injection hv with e1 e2 e3
  subst e1 e2 e3
  obtain ⟨g, rfl, hB, hlt⟩ := hg (by omega)
  obtain ⟨ra, rc, hv, hI⟩ := (h3 i hi).ints
  refine ⟨g, ra, rc, rfl, hv, ?_⟩
  have := World.ownsRow.cellAt h2 i (by omega)
  rw [this, ← hv]
  simp [h1, hi]
theorem appendRowS (w0 w : World) {ops : Array Oper} {rest : List Oper} {o : Oper} {a : Act} {Q : Exit → Act → World → Prop} (hgd : o.guard = none) (s x : Operand)
    (ho : o.op = .call { callee := .builtin .append, args := #[s, x], argTypes := #[54, 54] }) (B : Nat) (v : Value) (ra : Option Addr) (L rc : Nat) (R : List (List Int)) (l : List Int) (n : Nat) (hn : R.length = n) (hs : a.eval s = v) (hown : OwnM w0 B v R) (hb : Below w0.heap.size w0 w) (hro : Own w w0.heap.size (.slice ra L rc) l)
    (hx : a.eval x = .slice (some ⟨w.heap.size, 0, none⟩) 1 1) (hlen : R.length ≤ 2000000) (hB : B ≤ w0.heap.size)
    (h : ∀ g' c' w', OwnM w' B (.slice (some ⟨g', 0, none⟩) (n + 1) c') (R ++ [l]) → w'.cell? ⟨g', n, none⟩ = some (.slice ra L rc) → Below B w w' → wpList Try.prog ops Q rest (a.put o.dst (.slice (some ⟨g', 0, none⟩) (n + 1) c')) w') :
    wpList Try.prog ops Q (o :: rest) a (w.alloc (.cells #[.slice ra L rc] 24)) := by
  subst hn
  obtain ⟨i0, hi, hz0, hz1, hz2⟩ := info_parts infoS64
  have hsz := hb.size
  obtain ⟨V, h1, h2, h3⟩ := hown
  have hwV : w.ownsRow B 24 1 v R.length V := ownsRow_keep h2 (fun k hv => hb.block k (own_lt h2 hv).2)
  have hown2 : (w.alloc (.cells #[.slice ra L rc] 24)).ownsRow B 24 1 v R.length V := World.ownsRow.alloc hwV _
  refine wpList_append_own_at (w := w.alloc (.cells #[.slice ra L rc] 24)) hgd s x 54 ho B 24 i0 (.slice none 0 0) 1 24 Try.underlying54 hi hz0 hz1 hz2 rfl (by decide) v _ _ hs hown2 ⟨w.heap.size, 0, none⟩ 1 1 [.slice ra L rc] hx rfl (cell_one_new _ _ _) ?c2 ?c3 ?c4 ?c5 ?_
  case c2 => intro u hu; simp at hu; subst hu; rfl
  case c3 => unfold maxLen; omega
  case c4 => omega
  case c5 => simp; omega
  · intro v' w' hownV' hgrow hz hvb
    obtain ⟨g1, g2, g3, g4, g5⟩ := hgrow
    have hg : ∀ k, k < w.heap.size → v.ownBlock ≠ some k → w'.heap[k]? = w.heap[k]? := fun k hk hne => by
      rw [g5 k (by simp; omega) (fun e => hne e.symm), Below.heap_alloc _ _ _ hk]
    have hV : OwnV w' B v' (R ++ [l]) (V ++ [.slice ra L rc]) :=
      OwnV.snocV (q := (w.alloc (.cells #[.slice ra L rc] 24)).heap.size) ⟨h1, h2, h3⟩ hb hB hro (by simpa using hownV') hg hvb (by simp)
    have hM : OwnM w' B v' (R ++ [l]) := ⟨_, hV⟩
    obtain ⟨b', c', hv', _⟩ := hM.form
    rw [show (R ++ [l]).length = R.length + 1 by simp] at hv'
    subst hv'
    obtain ⟨g, ra', rc', rfl, e1, e2⟩ := hV.cellS R.length (by omega)
    have e3 : (V ++ [Value.slice ra L rc]).getD R.length (.slice none 0 0) = .slice ra L rc := by
      rw [List.getD_eq_getElem?_getD, ← h1]; simp
    rw [e3] at e1
    exact h g c' w' hM (by rw [e2, ← e1]) (((Below.refl B w).alloc (by omega) _).grown ⟨g1, g2, g3, g4, g5⟩ (by simp; omega) (fun k hk => (own_lt h2 hk).1))
theorem range_getD (L : List Int) (N : Nat) (h : L.length = N) : (List.range N).map (fun e => L.getD e 0) = L := by
  subst h
  apply List.ext_getElem
  · simp
  · intro i h1 h2
    simp only [List.getElem_map, List.getElem_range]
    rw [List.getD_eq_getElem?_getD, List.getElem?_eq_getElem h2]; rfl
set_option maxRecDepth 100000 in
set_option maxHeartbeats 8000000 in
theorem sTimes13 (N : Nat) (a : Option Addr) (n cap : Nat) (l : List M.Pc) (nn : Nat) (sa : Option Addr) (sc : Nat) (Ls : List Int) (w : World) (h : Pls w a n l) (hg : M.isGr (N : Int) l = true) (hnp : M.noPos (M.wtF M.fOne l) N = true) (hnn : nn ≤ 50)
    (hS : Ints .i64 w sa N Ls) (hst : ∀ e, 0 ≤ Ls.getD e 0 ∧ Ls.getD e 0 ≤ 1000000) :
    Calls Try.prog 95 #[.agg #[.int .i64 N, .slice a n cap], .int .i64 nn, .slice sa N sc] w (MPost nn (M.timM l (M.ordL (M.wtF M.fOne l) N N) (fun e => Ls.getD e 0) N nn) w) := by
  have HI := Lib.hid h
  have HL : Hid (l.length = n) := h.1
  have HG := Lib.hid hg
  have HNp := Lib.hid hnp
  obtain ⟨n1, n2, hl30⟩ := gr_N hg
  have hn30 : n ≤ 30 := by rw [h.1] at hl30; exact hl30
  have HLs : Hid ((List.range N).map (fun e => Ls.getD e 0) = Ls) := range_getD Ls N hS.1
  obtain ⟨st, hste⟩ : ∃ s, s = fun e => Ls.getD e 0 := ⟨_, rfl⟩
  have HBd : Hid (∀ k t r x, k ≤ 50 → t ≤ N → 0 ≤ M.rowT l (M.ordL (M.wtF M.fOne l) N N) st (M.tabT l (M.ordL (M.wtF M.fOne l) N N) st k) (k + 1) t r x ∧ M.rowT l (M.ordL (M.wtF M.fOne l) N N) st (M.tabT l (M.ordL (M.wtF M.fOne l) N N) st k) (k + 1) t r x ≤ 2000000) := fun k t r x hk ht => by
    have hol := M.ord_full (M.uz_graph l) n2 hnp (Nat.le_refl N)
    have hdl := (M.gr_plOk hg).delays
    have hst' : ∀ e, 0 ≤ st e ∧ st e ≤ 1000000 := fun e => by rw [hste]; exact hst e
    have b1 := M.tabT_bd l (M.ordL (M.wtF M.fOne l) N N) st (S := 1000000) (by omega) hdl hst' k
    have b2 := M.rowT_bd l (M.ordL (M.wtF M.fOne l) N N) st (k := k + 1) (t := t) hdl hst' (c := k * (M.ordL (M.wtF M.fOne l) N N).length) b1 r x
    have b3 : k * (M.ordL (M.wtF M.fOne l) N N).length ≤ 50 * 10 := Nat.mul_le_mul hk (by omega)
    omega
  rw [← hste] at HLs ⊢
  have HOk := Lib.hid (M.gr_plOk hg).times
  have HS := Lib.hid hS
  have hb0 := b_alloc w (.cells #[.int .i64 N, .slice a n cap] 41)
  have hGb := gBox_new w N a n cap 41
  obtain ⟨wb, hwb⟩ : ∃ z, z = w.alloc (.cells #[.int .i64 N, .slice a n cap] 41) := ⟨_, rfl⟩
  rw [← hwb] at hb0 hGb
  have HB0 := Lib.hid hb0
  have HGb := Lib.hid hGb
  obtain ⟨g0, g1⟩ := hGb
  clear h hg hl30 hb0 hS hst hste hnp
  go_enter Try.func95, Try.ntmps95
  go_wp2_with fail
  rw [← hwb]
  clear hwb
  refine (sOrder N a n cap l wb (HI.out.below HB0.out) HG.out HNp.out).mono ?_
  rintro e w2 ⟨ob, oc, rfl, ho, hb⟩
  have HO := Lib.hid ho.ints'
  have HB2 := Lib.hid (HB0.out.trans (hb.mono HB0.out.size))
  have HG2 := Lib.hid (HGb.out.below hb)
  have HT0 : Hid (OwnM (w2.alloc (.cells #[] 24)) w2.heap.size (.slice (some ⟨w2.heap.size, 0, none⟩) 0 0) (M.timM l (M.ordL (M.wtF M.fOne l) N N) st N 0)) := ownM_lit0 w2 _ (Nat.le_refl _)
  have HB3 : Hid (Below w2.heap.size w2 (w2.alloc (.cells #[] 24))) := b_alloc _ _
  clear ho hb g0 g1
  go_wp2
  go_loopw [8, 9] (fun tv kv wr => ∃ (k : Nat) (tb : Option Addr) (tc : Nat), k ≤ nn ∧ kv = .int .i64 ((k : Int) + 1) ∧ tv = .slice tb k tc ∧ Hid (OwnM wr w2.heap.size tv (M.timM l (M.ordL (M.wtF M.fOne l) N N) st N k)) ∧ Hid (Below w2.heap.size w2 wr)) (fun _ kv _ => nn + 1 - (intOf kv).toNat)
  case atStart => exact ⟨0, _, _, Nat.zero_le _, rfl, rfl, HT0, HB3⟩
  case round =>
    clear HT0 HB3
    obtain ⟨k, tb, tc, hk, rfl, rfl, HT, HB⟩ := hrel
    obtain ⟨wo, rfl⟩ : ∃ x, x = wr := ⟨_, rfl⟩
    by_cases hkn : k < nn
    · have hki : (k : Int) + 1 ≤ (nn : Int) := by omega
      have hsz := HB.out.size
      have HTl : Hid ((M.timM l (M.ordL (M.wtF M.fOne l) N N) st N k).length = k) := M.mk_length _ _ _
      go_wp2_with fail
      refine (sOwn sa N sc Ls wo (HS.out.below (HB2.out.trans (HB.out.mono HB2.out.size))) (by omega) (by omega)).mono ?_
      rintro e wx ⟨xb, xc, rfl, hox, hbx⟩
      obtain ⟨xa, xcc, hxv, -, -, hxg⟩ := own_form hox
      injection hxv with e1 e2 e3
      subst e1
      obtain ⟨xq, rfl, hxq, hxl⟩ := hxg (by rw [← e2]; exact n1)
      have HOx := Lib.hid hox
      have HBx := Lib.hid hbx
      have HXq := Lib.hid hxq
      clear hox hbx e2 e3 hxg hxl
      go_wp2_with (at_builtin; refine appendRowS wo _ rfl (.tmp 24) (.tmp 26) rfl w2.heap.size _ _ _ _ _ _ k HTl.out rfl HT.out HBx.out HOx.out rfl (by rw [HTl.out]; omega) hsz ?_)
      intro og oc1 w1 hO1 hc1 hb1
      rw [← HLs.out, ← M.rowM_row0] at hO1
      have HO1 := Lib.hid hO1
      have HC1 := Lib.hid hc1
      have HB1 := Lib.hid ((HB.out.trans (HBx.out.mono hsz)).trans hb1)
      have hxq2 : w2.heap.size ≤ xq := Nat.le_trans hsz HXq.out
      clear hO1 hc1 hb1
      go_wp2
      go_loopw [11] (fun iv wr => ∃ t : Nat, t ≤ N ∧ iv = .int .i64 t ∧ Hid (OwnM wr w2.heap.size (.slice (some ⟨og, 0, none⟩) (k + 1) oc1) (M.mk (k + 1) N fun r x => M.rowM l N st (M.tabT l (M.ordL (M.wtF M.fOne l) N N) st k) (k + 1) t (r + 1) x)) ∧ Hid (wr.cell? ⟨og, k, none⟩ = some (.slice (some ⟨xq, 0, none⟩) N xc)) ∧ Hid (Below w2.heap.size w2 wr)) (fun iv _ => N - (intOf iv).toNat)
      case atStart => exact ⟨0, Nat.zero_le _, rfl, HO1, HC1, HB1⟩
      case round =>
        clear HO1 HC1 HB1
        obtain ⟨t, ht, rfl, HOt, HCt, HBt⟩ := hrel
        obtain ⟨wt, rfl⟩ : ∃ x, x = wr := ⟨_, rfl⟩
        by_cases htN : t < N
        · have hti : (t : Int) < (N : Int) := by omega
          obtain ⟨e, he, hoe, hox, hnd, -⟩ := M.ord_at (M.uz_graph l) n2 HNp.out htN
          have hei : (e : Int) < (N : Int) := by omega
          obtain ⟨ob', oo, y, hbo, hol, hy, hoc⟩ := HO.out.at t htN
          rw [hoe] at hy
          subst hy hbo
          have HOc := Lib.hid hoc
          have HOl := Lib.hid hol
          have HOe := Lib.hid hoe
          have HM0 : Hid ((M.mk (k + 1) N fun r x => M.rowM l N st (M.tabT l (M.ordL (M.wtF M.fOne l) N N) st k) (k + 1) t (r + 1) x) = M.mk (k + 1) N fun r x => M.midM l N st (M.tabT l (M.ordL (M.wtF M.fOne l) N N) st k) (k + 1) t e 0 (r + 1) x) := M.mk_congr fun r _ x _ => (M.midM_zero st _ hnd (r + 1) x).symm
          rw [HM0.out] at HOt
          clear hoc hol hoe hox hnd HM0
          go_wp2
          go_loopw [12] (fun iv wr => ∃ m : Nat, m ≤ n ∧ iv = .int .i64 m ∧ Hid (OwnM wr w2.heap.size (.slice (some ⟨og, 0, none⟩) (k + 1) oc1) (M.mk (k + 1) N fun r x => M.midM l N st (M.tabT l (M.ordL (M.wtF M.fOne l) N N) st k) (k + 1) t e m (r + 1) x)) ∧ Hid (wr.cell? ⟨og, k, none⟩ = some (.slice (some ⟨xq, 0, none⟩) N xc)) ∧ Hid (Below w2.heap.size w2 wr)) (fun iv _ => n - (intOf iv).toNat)
          case atStart => exact ⟨0, Nat.zero_le _, rfl, HOt, HCt, HBt⟩
          case round =>
            clear HOt HCt HBt
            obtain ⟨m, hm, rfl, HOm, HCm, HBm⟩ := hrel
            obtain ⟨wm, rfl⟩ : ∃ x, x = wr := ⟨_, rfl⟩
            obtain ⟨g0, g1⟩ := HG2.out.below HBm.out
            by_cases hml : m < n
            · have hmi : (m : Int) < (n : Int) := by omega
              obtain ⟨pb, off, p0, p1, p2, p3, rfl, -, hp, c0, c1, c2, c3⟩ := (HI.out.below (HB2.out.trans (HBm.out.mono HB2.out.size))).at m hml
              obtain ⟨e', j, he', hj, rfl, rfl, t2, t2', t3, t3'⟩ := gr_at HG.out (by rw [HL.out]; exact hml) hp
              obtain ⟨F, hF⟩ : ∃ F, F = M.tabT l (M.ordL (M.wtF M.fOne l) N N) st k := ⟨_, rfl⟩
              have hmem : ((j : Int), (e' : Int), p2, p3) ∈ l := by
                have hh : m < l.length := by rw [HL.out]; exact hml
                rw [← hp, List.getD_eq_getElem?_getD, List.getElem?_eq_getElem hh]
                exact List.getElem_mem hh
              have hFb : ∀ r x, 0 ≤ M.rowT l (M.ordL (M.wtF M.fOne l) N N) st F (k + 1) t r x ∧ M.rowT l (M.ordL (M.wtF M.fOne l) N N) st F (k + 1) t r x ≤ 2000000 := fun r x => by rw [hF]; exact HBd.out k t r x (by omega) ht
              rw [← hF] at HOm ⊢
              obtain ⟨wp, hwp⟩ : ∃ z, z = wm.alloc (.cells #[.int .i64 j, .int .i64 e', .int .i64 p2, .int .i64 p3] 52) := ⟨_, rfl⟩
              have hbp : Below wm.heap.size wm wp := by rw [hwp]; exact b_alloc wm _
              have x0 : wp.cell? ⟨wm.heap.size, 0, none⟩ = some (.int .i64 j) := by rw [hwp]; simp [go_sem]
              have x1 : wp.cell? ⟨wm.heap.size, 1, none⟩ = some (.int .i64 e') := by rw [hwp]; simp [go_sem]
              have x2 : wp.cell? ⟨wm.heap.size, 2, none⟩ = some (.int .i64 p2) := by rw [hwp]; simp [go_sem]
              have x3 : wp.cell? ⟨wm.heap.size, 3, none⟩ = some (.int .i64 p3) := by rw [hwp]; simp [go_sem]
              have hoc := ((HBm.out.trans (hbp.mono HBm.out.size)).cell (p := ⟨ob', oo + t, none⟩) HOl.out).trans HOc.out
              have HWp := Lib.hid hwp.symm
              have HBp := Lib.hid (HBm.out.trans (hbp.mono HBm.out.size))
              have HOp := Lib.hid (HOm.out.below hbp)
              have HCp : Hid (wp.cell? ⟨og, k, none⟩ = some (.slice (some ⟨xq, 0, none⟩) N xc)) := (hbp.cell (cell_lt HCm.out)).trans HCm.out
              by_cases hte : e' = e
              · have hte' : ((e' : Int) == (e : Int)) = true := by simp [hte]
                have hw1 : wrap64 ((k : Int) + 1 - p3) = (k : Int) + 1 - p3 := IntWalk.wrap64_in _ ⟨by omega, by omega⟩
                have hw1' : IntKind.i64.wrap ((k : Int) + 1 - p3) = (k : Int) + 1 - p3 := IntWalk.i64_in _ (by omega)
                by_cases htk : p3 < ((k + 1 : Nat) : Int)
                · have htk' : (k : Int) + 1 - p3 ≥ 1 := by omega
                  have HEe := HOe.out
                  obtain ⟨r, hr⟩ : ∃ r, r = k + 1 - p3.toNat - 1 := ⟨_, rfl⟩
                  have hrk : r < k + 1 := by omega
                  have hw4 : wrap64 ((k : Int) + 1 - p3 - 1) = (r : Int) := by rw [IntWalk.wrap64_in _ ⟨by omega, by omega⟩]; omega
                  have hw4' : IntKind.i64.wrap ((k : Int) + 1 - p3 - 1) = (r : Int) := by rw [IntWalk.i64_in _ (by omega)]; omega
                  have hrki : (r : Int) < (k : Int) + 1 := by omega
                  have hjj : (j : Int) < (N : Int) := by omega
                  have hrow : ∀ r, r < k + 1 → ((M.mk (k + 1) N fun r x => M.midM l N st F (k + 1) t e m (r + 1) x).getD r []).length = N := fun r hr => M.mk_rowlen _ _ _ _ hr
                  have hnx := M.rd_yes (M.rowT l (M.ordL (M.wtF M.fOne l) N N) st F (k + 1) t) (k := k + 1) (e := e) l (st e) (by rw [HL.out]; exact hml) hp (by rw [hte]) htk
                  have hrd := M.midM_read n2 HNp.out HOk.out st F (k := k + 1) (m := m) htN HEe hmem (by rw [hte]) htk
                  have hrd : M.midM l N st F (k + 1) t e m (k + 1 - p3.toNat) j = M.rowT l (M.ordL (M.wtF M.fOne l) N N) st F (k + 1) t (k + 1 - p3.toNat) j := by simpa using hrd
                  have hrr : r + 1 = k + 1 - p3.toNat := by omega
                  rw [← hrr] at hrd hnx
                  obtain ⟨u, hu⟩ : ∃ u, u = M.rowT l (M.ordL (M.wtF M.fOne l) N N) st F (k + 1) t (r + 1) j := ⟨_, rfl⟩
                  have hub : 0 ≤ u ∧ u ≤ 2000000 := by rw [hu]; exact hFb _ _
                  have hnx : M.rd (M.rowT l (M.ordL (M.wtF M.fOne l) N N) st F (k + 1) t) (k + 1) e (l.take (m + 1)) (st e) = max (M.rd (M.rowT l (M.ordL (M.wtF M.fOne l) N N) st F (k + 1) t) (k + 1) e (l.take m) (st e)) (u + p2) := by rw [hnx, hu]; simp
                  obtain ⟨v, hv⟩ : ∃ v, v = M.rd (M.rowT l (M.ordL (M.wtF M.fOne l) N N) st F (k + 1) t) (k + 1) e (l.take m) (st e) := ⟨_, rfl⟩
                  have hse := M.midM_self (l := l) (N := N) st F (k + 1) t e m
                  have hse2 := M.midM_self (l := l) (N := N) st F (k + 1) t e (m + 1)
                  rw [← hv] at hnx hse
                  rw [hnx] at hse2
                  have HSet : Hid ((M.mk (k + 1) N fun r x => M.midM l N st F (k + 1) t e m (r + 1) x).set k (((M.mk (k + 1) N fun r x => M.midM l N st F (k + 1) t e m (r + 1) x).getD k []).set e (max v (u + p2))) = M.mk (k + 1) N fun r x => M.midM l N st F (k + 1) t e (m + 1) (r + 1) x) := M.midM_set st F _ hse2.symm
                  obtain ⟨o1, q1, L1, rc1, y1, ho1, -, hq1, hL1, hy1, m1, m2, m3, -⟩ := HOp.out.at k e (by omega) (by rw [hrow k (by omega)]; exact he)
                  rw [M.mk_ent _ _ _ _ _ (by omega) he, hse] at hy1
                  injection ho1 with ho1
                  injection ho1 with ho1
                  subst ho1
                  rw [HCp.out] at m1
                  injection m1 with m1
                  injection m1 with m1 m1' m1''
                  injection m1 with m1
                  injection m1 with m1
                  subst m1
                  obtain ⟨o2, q2, L2, rc2, y2, ho2, -, -, hL2, hy2, k1, k2, -, -⟩ := HOp.out.at r j hrk (by rw [hrow r hrk]; exact hj)
                  rw [M.mk_ent _ _ _ _ _ hrk hj, hrd, ← hu] at hy2
                  injection ho2 with ho2
                  injection ho2 with ho2
                  subst ho2
                  rw [hrow r hrk] at hL2
                  replace hL2 := hL2.symm
                  subst hy1 hy2 hL2
                  have hne := HOp.out.rowNe (i := k) (by omega) HCp.out
                  have hw2 : wrap64 (y2 + p2) = y2 + p2 := IntWalk.wrap64_in _ ⟨by omega, by omega⟩
                  have hw2' : IntKind.i64.wrap (y2 + p2) = y2 + p2 := IntWalk.i64_in _ (by omega)
                  have HFin : Hid (∀ wx, Below wp.heap.size wp wx → ∀ v, v = max y1 (y2 + p2) → Hid (OwnM (wx.setCell ⟨xq, e, none⟩ (.int .i64 v)) w2.heap.size (.slice (some ⟨og, 0, none⟩) (k + 1) oc1) (M.mk (k + 1) N fun r x => M.midM l N st F (k + 1) t e (m + 1) (r + 1) x)) ∧ Hid ((wx.setCell ⟨xq, e, none⟩ (.int .i64 v)).cell? ⟨og, k, none⟩ = some (.slice (some ⟨xq, 0, none⟩) N xc)) ∧ Hid (Below w2.heap.size w2 (wx.setCell ⟨xq, e, none⟩ (.int .i64 v)))) := fun wx hbx v hv => by
                    refine ⟨?_, ?_, ?_⟩
                    · show OwnM _ _ _ _
                      rw [← HSet.out, hv]
                      exact (HOp.out.below hbx).put (by omega) (by rw [hrow k (by omega)]; exact he) ((hbx.cell (cell_lt HCp.out)).trans HCp.out) _
                    · show _ = _
                      have e2 : (wx.setCell ⟨xq, e, none⟩ (.int .i64 v)).heap[og]? = wx.heap[og]? := Below.heap_setCell _ _ _ _ hne
                      exact (World.cell?_of_block (a := ⟨og, k, none⟩) e2).trans ((hbx.cell (cell_lt HCp.out)).trans HCp.out)
                    · exact (HBp.out.trans (hbx.mono HBp.out.size)).setCell (p := ⟨xq, e, none⟩) hxq2 _
                  clear hp hmem hFb hF hwp hbp hnx hrd hu hv hse hse2 hrow m1' m1'' hL1 hrr hr htk hub hne
                  subst hte
                  go_wp2
                  rw [HWp.out]
                  go_quiet (fail)
                  have hbq : Below wp.heap.size wp (wp.drewN nq) := b_draws _ _
                  have y0 := (hbq.cell (cell_lt x0)).trans x0
                  have y1' := (hbq.cell (cell_lt x1)).trans x1
                  have y2' := (hbq.cell (cell_lt x2)).trans x2
                  have y3 := (hbq.cell (cell_lt x3)).trans x3
                  have z1 := (hbq.cell (cell_lt m2)).trans m2
                  have z2 := (hbq.frozen (cell_lt m2)).trans m3
                  have z3 := (hbq.cell (cell_lt k1)).trans k1
                  have z4 := (hbq.cell (cell_lt k2)).trans k2
                  obtain ⟨wq, hwq⟩ : ∃ z, z = wp.drewN nq := ⟨_, rfl⟩
                  rw [← hwq] at hbq y0 y1' y2' y3 z1 z2 z3 z4 ⊢
                  have HBq := Lib.hid hbq
                  clear hwq hbq x0 x1 x2 x3 m2 m3 k1 k2 hoc
                  go_wp2
                  go_still_tail 25, (by kernel_rfl)
                  change wpList _ _ _ _ _ wq.drew
                  go_wp2
                  go_roundw
                  case rel =>
                    exact ⟨m + 1, by omega, by go_num, (HFin.out wq.drew HBq.out.drew _ (by split <;> omega)).1, (HFin.out wq.drew HBq.out.drew _ (by split <;> omega)).2.1, (HFin.out wq.drew HBq.out.drew _ (by split <;> omega)).2.2⟩
                  case measure => simp [intOf]; omega
                · have htk' : ¬ (k : Int) + 1 - p3 ≥ 1 := by omega
                  have hnx := M.rd_no (M.rowT l (M.ordL (M.wtF M.fOne l) N N) st F (k + 1) t) (k := k + 1) (e := e) l (st e) (by rw [HL.out]; exact hml) hp (fun q => htk q.2)
                  have HSm : Hid ((M.mk (k + 1) N fun r x => M.midM l N st F (k + 1) t e m (r + 1) x) = M.mk (k + 1) N fun r x => M.midM l N st F (k + 1) t e (m + 1) (r + 1) x) := M.mk_congr fun r _ x _ => by unfold M.midM; rw [hnx]
                  rw [HSm.out] at HOp
                  clear hp hmem hFb hF hwp hbp hnx htk
                  subst hte
                  go_wp2
                  rw [HWp.out]
                  go_quiet (fail)
                  go_wp2
                  go_roundw
                  case rel => exact ⟨m + 1, by omega, by go_num, HOp.out.below (b_draws _ _), HCp, HBp.out.trans ((b_draws _ _).mono HBp.out.size)⟩
                  case measure => simp [intOf]; omega
              · have hte' : ((e' : Int) == (e : Int)) = false := by simp; omega
                have hnx := M.rd_no (M.rowT l (M.ordL (M.wtF M.fOne l) N N) st F (k + 1) t) (k := k + 1) (e := e) l (st e) (by rw [HL.out]; exact hml) hp (fun q => hte (by have := q.1; omega))
                have HSm : Hid ((M.mk (k + 1) N fun r x => M.midM l N st F (k + 1) t e m (r + 1) x) = M.mk (k + 1) N fun r x => M.midM l N st F (k + 1) t e (m + 1) (r + 1) x) := M.mk_congr fun r _ x _ => by unfold M.midM; rw [hnx]
                rw [HSm.out] at HOp
                clear hp hmem hFb hF hwp hbp hnx hte
                go_wp2
                rw [HWp.out]
                go_quiet (fail)
                go_wp2
                go_roundw
                case rel => exact ⟨m + 1, by omega, by go_num, HOp.out.below (b_draws _ _), HCp, HBp.out.trans ((b_draws _ _).mono HBp.out.size)⟩
                case measure => simp [intOf]; omega
            · obtain rfl : m = n := by omega
              have HE : Hid ((M.mk (k + 1) N fun r x => M.midM l N st (M.tabT l (M.ordL (M.wtF M.fOne l) N N) st k) (k + 1) t e m (r + 1) x) = M.mk (k + 1) N fun r x => M.rowM l N st (M.tabT l (M.ordL (M.wtF M.fOne l) N N) st k) (k + 1) (t + 1) (r + 1) x) := M.mk_congr fun r _ x _ => by rw [← HL.out]; exact M.midM_end n2 HNp.out st _ htN HOe.out (r + 1) x
              rw [HE.out] at HOm
              go_wp2
              go_roundw
              case rel => exact ⟨t + 1, by omega, by go_num, HOm, HCm, HBm⟩
              case measure => simp [intOf]; omega
        · obtain rfl : t = N := by omega
          have HE : Hid ((M.mk (k + 1) t fun r x => M.rowM l t st (M.tabT l (M.ordL (M.wtF M.fOne l) t t) st k) (k + 1) t (r + 1) x) = M.timM l (M.ordL (M.wtF M.fOne l) t t) st t (k + 1)) := by
            show _ = _
            rw [M.timM_next, M.ord_full (M.uz_graph l) n2 HNp.out (Nat.le_refl t)]
            exact M.mk_congr fun r _ x hx => M.rowM_end n2 HNp.out st _ hx (r + 1)
          rw [HE.out] at HOt
          go_wp2
          go_roundw
          case rel => exact ⟨k + 1, _, _, by omega, by go_num, rfl, HOt, HBt⟩
          case measure => simp [intOf]; omega
    · obtain rfl : k = nn := by omega
      go_wp2
      go_ret
      exact ⟨_, _, rfl, HT.out.mono HB2.out.size, HB2.out.trans (HB.out.mono HB2.out.size)⟩
end V
end Go.Proofs.Ytjbffpmelglegaa
