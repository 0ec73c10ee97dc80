/- Texts laid together: Fhc. -/
import Derived.Test.YtjbffpmelglegaaQa76
import Derived.StillTailTactics
import Derived.Deep.AppendLies
set_option linter.unusedSimpArgs false
set_option linter.unusedVariables false
set_option linter.unusedSectionVars false
namespace Go.Proofs.Ytjbffpmelglegaa
namespace V
set_option maxRecDepth 100000
open Go.RowKit
theorem OwnV.cellH {w : World} {B : Nat} {a : Option Addr} {n cap : Nat} {R : List (List Int)} {V : List Value} (h : OwnV w B (.slice a n cap) R V) (i : Nat) (hi : i < n) :
    ∃ g, a = some ⟨g, 0, none⟩ ∧ B ≤ g ∧ g < w.heap.size ∧ w.cell? ⟨g, i, none⟩ = some (V.getD i (.slice none 0 0)) ∧ w.frozen? ⟨g, i, none⟩ = false ∧ R.length = n ∧ Own w B (V.getD i (.slice none 0 0)) (R.getD i []) ∧ (V.getD i (.slice none 0 0)).ownBlock ≠ some g := by
  have hM : OwnM w B (.slice a n cap) R := ⟨V, h⟩
  have hn := hM.len
  obtain ⟨h1, h2, h3, h4, h5⟩ := h
  obtain ⟨a', c', hv, hc, hm, hg⟩ := own_form h2
  injection hv with e1 e2 e3
  subst e1 e3
  obtain ⟨g, rfl, hB, hlt⟩ := hg (by omega)
  have hcl := World.ownsRow.cells h2 (g := g) rfl i (V.getD i (.slice none 0 0)) (by
    rw [List.getD_eq_getElem?_getD, List.getElem?_eq_getElem (by omega)]; rfl)
  have ad : (⟨g, 0, none⟩ : Addr).add i = ⟨g, 0 + i, none⟩ := by unfold Addr.add; split <;> simp_all
  rw [ad, Nat.zero_add] at hcl
  exact ⟨g, rfl, hB, hlt, hcl, hM.outerFz i, hn.symm, h3 i (by omega), fun q => h4 i (by omega) g q rfl⟩
theorem append1L (w : World) {ops : Array Oper} {rest : List Oper} {o : Oper} {a : Act} {Q : Exit → Act → World → Prop} (hgd : o.guard = none) (s x : Operand)
    (ho : o.op = .call { callee := .builtin .append, args := #[s, x], argTypes := #[24, 24] }) (B : Nat) (v : Value) (l : List Int) (y : Int) (n : Nat) (hn : l.length = n) (hs : a.eval s = v) (hown : Own w B v l)
    (hx : a.eval x = .slice (some ⟨w.heap.size, 0, none⟩) 1 1) (hlen : n ≤ 2000000) (hB : B ≤ w.heap.size)
    (h : ∀ q c' w', Own w' B (.slice (some ⟨q, 0, none⟩) (n + 1) c') (l ++ [y]) → Below B w w' → (∀ k, k < w.heap.size → v.ownBlock ≠ some k → w'.heap[k]? = w.heap[k]?) → (v.ownBlock = some q ∨ w.heap.size ≤ q) → wpList Try.prog ops Q rest (a.put o.dst (.slice (some ⟨q, 0, none⟩) (n + 1) c')) w') :
    wpList Try.prog ops Q (o :: rest) a (w.alloc (.cells #[.int .i64 y] 2)) := by
  subst hn
  obtain ⟨i0, hi, hz0, hz1, hz2⟩ := info_parts info64
  have hown2 : (w.alloc (.cells #[.int .i64 y] 2)).ownsRow B 2 1 v l.length (l.map (Value.int .i64)) := World.ownsRow.alloc hown _
  refine wpList_append_lies (w := w.alloc (.cells #[.int .i64 y] 2)) hgd s x 24 ho B 2 i0 (.int .i64 0) 1 8 Try.underlying24 hi hz0 hz1 hz2 rfl (by decide) v _ _ hs hown2 ⟨w.heap.size, 0, none⟩ 1 1 [.int .i64 y] hx rfl (cell_one_new _ _ _) ?c2 (by decide) ?c3 ?c4 ?c5 (w.heap.size + 1) (by simp) ?_
  case c2 => intro u hu; simp at hu; subst hu; rfl
  case c3 => unfold maxLen; omega
  case c4 => omega
  case c5 => simp; omega
  · intro g' cap' w' hown' hgrow hat hlt
    have ho' : Own w' B (.slice (some ⟨g', 0, none⟩) (l.length + 1) cap') (l ++ [y]) := by
      show w'.ownsRow B _ 1 _ (l ++ [y]).length ((l ++ [y]).map (Value.int .i64))
      simpa using hown'
    refine h _ _ w' ho' (((Below.refl B w).alloc hB _).grown hgrow (by simp; omega) (fun k hk => (own_lt hown hk).1)) (fun k hk hne => ?_) (by rcases hat with e | e; exact .inl e; exact .inr (by omega))
    obtain ⟨g1, g2, g3, g4, g5⟩ := hgrow
    rw [g5 k (by simp; omega) (fun e => hne e.symm), Below.heap_alloc _ _ _ hk]
set_option maxRecDepth 100000 in
set_option maxHeartbeats 2000000 in
theorem histAdd (N g tc B : Nat) (pre : List M.Fr) (e : Nat) (num t : Int) (w0 w : World) (h0 : OwnM w0 B (.slice (some ⟨g, 0, none⟩) N tc) (M.hisM N pre)) (hb0 : Below w0.heap.size w0 w) (hB0 : B ≤ w0.heap.size) (he : e < N) (hN : N ≤ 10) (hlen : pre.length ≤ 500) :
    Calls Try.prog 80 #[.slice (some ⟨g, 0, none⟩) N tc, .int .i64 e, .int .i64 t] w fun z w' => z = .returned (.tuple #[]) ∧ OwnM w' B (.slice (some ⟨g, 0, none⟩) N tc) (M.hisM N (pre ++ [((e : Int), num, t)])) ∧ Below B w w' ∧ ∀ k, w0.heap.size ≤ k → k < w.heap.size → w'.heap[k]? = w.heap[k]? := by
  have hB : B ≤ w.heap.size := Nat.le_trans hB0 hb0.size
  obtain ⟨V, hV0⟩ := h0
  have hV : OwnV w B (.slice (some ⟨g, 0, none⟩) N tc) (M.hisM N pre) V := by
    obtain ⟨z1, z2, z3, z4⟩ := hV0
    exact ⟨z1, ownsRow_keep z2 (fun k hv => hb0.block k (own_lt z2 hv).2), fun i hi => (z3 i hi).below hb0, z4⟩
  have hgl0 : g < w0.heap.size := (hV0.cellH e he).choose_spec.2.2.1 |> fun q => by
    have hg0 := (hV0.cellH e he).choose_spec.1
    injection hg0 with hg0
    injection hg0 with e1 _
    rw [e1]; exact q
  have hrl : ∀ k, (V.getD e (.slice none 0 0)).ownBlock = some k → k < w0.heap.size := fun k hk => (own_lt (hV0.cellH e he).choose_spec.2.2.2.2.2.2.1 hk).2
  obtain ⟨g', hg', hBg, hgl, hcl, hfz, -, hro, hne⟩ := hV.cellH e he
  injection hg' with hg'
  injection hg' with e1 _
  subst e1
  rw [M.hisM_get pre he] at hro
  obtain ⟨ra, rc, hrv, -, -, -⟩ := own_form hro
  obtain ⟨rv, hrvv⟩ : ∃ v, v = V.getD e (.slice none 0 0) := ⟨_, rfl⟩
  rw [← hrvv] at hcl hro hrv hne
  have hadd := M.hisM_add (N := N) pre (f := ((e : Int), num, t)) rfl he
  obtain ⟨l, hl⟩ : ∃ l, l = M.hsF pre (e : Int) := ⟨_, rfl⟩
  rw [← hl] at hro hrv hadd
  rw [← hrvv] at hrl
  have HRl := Lib.hid hrl
  clear hrl
  have hlb : l.length ≤ 500 := by rw [hl, M.hsF_len]; exact Nat.le_trans (M.cntF_le _ _) hlen
  obtain ⟨L, hL⟩ : ∃ L, L = l.length := ⟨_, rfl⟩
  rw [← hL] at hrv hlb
  have HL := Lib.hid hL.symm
  have HV := Lib.hid hV
  have HA := Lib.hid hadd
  have HRv := Lib.hid hrvv
  have HO := Lib.hid hro
  have HNe := Lib.hid hne
  subst hrv
  have hei : (e : Int) < (N : Int) := by omega
  clear hV hadd hrvv hro hne hL hl
  go_enter Try.func80, Try.ntmps80
  go_wp2_with (at_builtin; refine append1L _ rfl (.tmp 11) (.tmp 13) rfl B _ _ _ L HL.out rfl HO.out rfl (by omega) hB ?_)
  intro q c' w2 ho2 hb2 hk2 hat
  have e2 := hk2 g hgl HNe.out
  have c2 : w2.cell? ⟨g, e, none⟩ = some (.slice ra L rc) := (World.cell?_of_block (a := ⟨g, e, none⟩) e2).trans hcl
  have f2 : w2.frozen? ⟨g, e, none⟩ = false := (World.frozen?_of_block (a := ⟨g, e, none⟩) e2).trans hfz
  have HM : Hid (OwnM (w2.setCell ⟨g, e, none⟩ (.slice (some ⟨q, 0, none⟩) (L + 1) c')) B (.slice (some ⟨g, 0, none⟩) N tc) (M.hisM N (pre ++ [((e : Int), num, t)]))) := by
    show OwnM _ _ _ _
    rw [← HA.out]
    exact OwnV.appRowF HV.out e he ho2 (fun k hk hn => hk2 k hk (by rw [HRv.out]; exact hn)) (by rw [← HRv.out]; exact hat)
  have HBw : Hid (Below B w (w2.setCell ⟨g, e, none⟩ (.slice (some ⟨q, 0, none⟩) (L + 1) c'))) := hb2.setCell (by exact hBg) _
  have HOt : Hid (∀ k, w0.heap.size ≤ k → k < w.heap.size → (w2.setCell ⟨g, e, none⟩ (.slice (some ⟨q, 0, none⟩) (L + 1) c')).heap[k]? = w.heap[k]?) := fun k q1 q2 => by
    rw [Below.heap_setCell _ _ _ _ (by show k ≠ g; omega)]
    exact hk2 k q2 (fun x => absurd (HRl.out k x) (by omega))
  clear ho2 hb2 hk2 hat e2
  go_wp2
  go_end0
  exact ⟨rfl, HM.out, HBw.out, HOt.out⟩
set_option maxRecDepth 100000 in
set_option maxHeartbeats 4000000 in
theorem readyTimeH (N : Nat) (a : Option Addr) (n cap : Nat) (l : List M.Pc) (ta : Option Addr) (tc : Nat) (pre : List M.Fr) (e k : Nat) (least : Int) (w : World) (h : Pls w a n l) (hg : M.isGr (N : Int) l = true) (hM : Mat w ta N (M.hisM N pre)) (hlen : pre.length ≤ 500) (hk : k ≤ 501)
    (hA : ∀ p ∈ l, p.2.1 = (e : Int) → p.2.2.2 < (k : Int) → (k : Int) - p.2.2.2 ≤ M.cntF pre p.1) (hT : ∀ (x t : Int), t ∈ M.hsF pre x → 0 ≤ t ∧ t ≤ 1000000) (hl0 : 0 ≤ least ∧ least ≤ 1000000) :
    Calls Try.prog 78 #[.agg #[.int .i64 N, .slice a n cap], .int .i64 e, .int .i64 k, .int .i64 least, .func (.func 79) #[.slice ta N tc] #[]] w fun z w' => z = .returned (.int .i64 (M.rd (M.hisF pre) k e l least)) ∧ Below w.heap.size w w' := by
  have HI := Lib.hid h
  have HL : Hid (l.length = n) := h.1
  have HG := Lib.hid hg
  obtain ⟨n1, n2, hl30⟩ := gr_NF hg
  have hn30 : n ≤ 30 := by rw [h.1] at hl30; exact hl30
  have hb0 := b_alloc w (.cells #[.int .i64 N, .slice a n cap] 41)
  have hGb := gBox_new w N a n cap 41
  obtain ⟨wb, hwb⟩ : ∃ z, z = w.alloc (.cells #[.int .i64 N, .slice a n cap] 41) := ⟨_, rfl⟩
  rw [← hwb] at hb0 hGb
  have HB0 := Lib.hid hb0
  have HM := Lib.hid hM
  have HA := Lib.hid hA
  have HT := Lib.hid hT
  have HR0 : Hid (M.rd (M.hisF pre) k e (l.take 0) least = least) := rfl
  have HWb := Lib.hid hwb.symm
  obtain ⟨g0, g1⟩ := hGb
  rw [hwb] at g0 g1
  have HLe := Lib.hid hl0
  clear h hg hl30 hb0 hM hA hT hwb hl0
  go_enter Try.func78, Try.ntmps78
  go_wp2
  rw [HWb.out]
  clear g0 g1
  go_loopw [11, 18] (fun rv kv wr => ∃ i : Nat, i ≤ n ∧ kv = .int .i64 i ∧ rv = .int .i64 (M.rd (M.hisF pre) k e (l.take i) least) ∧ Hid (Below w.heap.size w wr)) (fun _ kv _ => n - (intOf kv).toNat)
  case atStart => exact ⟨0, Nat.zero_le _, rfl, by rw [HR0.out], HB0⟩
  case round =>
    obtain ⟨i, hi, rfl, rfl, HB⟩ := hrel
    obtain ⟨wo, rfl⟩ : ∃ x, x = wr := ⟨_, rfl⟩
    by_cases hil : i < n
    · have hii : (i : Int) < (n : Int) := by omega
      obtain ⟨pb, off, p0, p1, p2, p3, rfl, -, hp, c0, c1, c2, c3⟩ := (HI.out.below HB.out).at i hil
      obtain ⟨e', j, he', hj, rfl, rfl, t2, t2', t3, t3'⟩ := gr_atF HG.out (by rw [HL.out]; exact hil) hp
      have hmem : ((j : Int), (e' : Int), p2, p3) ∈ l := by
        rw [← hp, List.getD_eq_getElem?_getD, List.getElem?_eq_getElem (by rw [HL.out]; exact hil)]
        exact List.getElem_mem _
      obtain ⟨v, hv⟩ : ∃ v, v = M.rd (M.hisF pre) k e (l.take i) least := ⟨_, rfl⟩
      rw [← hv]
      have hbp : Below wo.heap.size wo (wo.alloc (.cells #[.int .i64 j, .int .i64 e', .int .i64 p2, .int .i64 p3] 52)) := b_alloc wo _
      have HBn := Lib.hid (HB.out.trans (hbp.mono HB.out.size))
      by_cases hte : e' = e
      · have hte' : ((e' : Int) == (e : Int)) = true := by simp [hte]
        by_cases htk : p3 < (k : Int)
        · have htk' : (k : Int) > p3 := htk
          have hle := HA.out _ hmem (by simp only; omega) htk
          simp only at hle
          have HN : Hid (M.rd (M.hisF pre) k e (l.take (i + 1)) least = max v (M.hisF pre (k - p3.toNat) j + p2)) := by
            show _ = _
            rw [hv]
            exact M.rd_yes (M.hisF pre) l least (by rw [HL.out]; exact hil) hp (by rw [hte]) htk
          have hcj : M.cntF pre j ≤ 500 := Nat.le_trans (M.cntF_le _ _) hlen
          obtain ⟨r, hr⟩ : ∃ r : Nat, (k : Int) - p3 = (r : Int) + 1 := ⟨((k : Int) - p3 - 1).toNat, by omega⟩
          obtain ⟨u, hu⟩ : ∃ u, u = M.hisF pre (k - p3.toNat) j := ⟨_, rfl⟩
          have hu2 : u = (M.hsF pre j).getD r 0 := by rw [hu]; unfold M.hisF; congr 1; omega
          have hub : 0 ≤ u ∧ u ≤ 1000000 := by
            have hrl : r < (M.hsF pre j).length := by rw [M.hsF_len]; omega
            refine HT.out j u ?_
            rw [hu2, List.getD_eq_getElem?_getD, List.getElem?_eq_getElem hrl]
            exact List.getElem_mem _
          rw [← hu] at HN
          obtain ⟨wp, hwp⟩ : ∃ z, z = wo.alloc (.cells #[.int .i64 j, .int .i64 e', .int .i64 p2, .int .i64 p3] 52) := ⟨_, rfl⟩
          have x0 : wp.cell? ⟨wo.heap.size, 0, none⟩ = some (.int .i64 j) := by rw [hwp]; simp [go_sem]
          have x1 : wp.cell? ⟨wo.heap.size, 1, none⟩ = some (.int .i64 e') := by rw [hwp]; simp [go_sem]
          have x2 : wp.cell? ⟨wo.heap.size, 2, none⟩ = some (.int .i64 p2) := by rw [hwp]; simp [go_sem]
          have x3 : wp.cell? ⟨wo.heap.size, 3, none⟩ = some (.int .i64 p3) := by rw [hwp]; simp [go_sem]
          rw [← hwp] at HBn
          have HAt : Hid (Calls Try.prog 79 #[.slice ta N tc, .int .i64 j, .int .i64 ((k : Int) - p3)] wp.drew fun e w' => e = .returned (.int .i64 u) ∧ w' = wp.drew) := by
            rw [hu2]
            exact histAt N ta tc pre j _ r hr wp.drew ((HM.out.below HBn.out).below (b_draws wp 1)) hj n2 (by omega) (by omega)
          have HWp := Lib.hid hwp.symm
          have hw1 : wrap64 ((k : Int) - p3) = (k : Int) - p3 := IntWalk.wrap64_in _ ⟨by omega, by omega⟩
          have hw1' : IntKind.i64.wrap ((k : Int) - p3) = (k : Int) - p3 := IntWalk.i64_in _ (by omega)
          have hw2 : wrap64 (u + p2) = u + p2 := IntWalk.wrap64_in _ ⟨by omega, by omega⟩
          have hw2' : IntKind.i64.wrap (u + p2) = u + p2 := IntWalk.i64_in _ (by omega)
          clear hp hv hu hu2 hub hwp hbp hte hr hle hmem hcj
          go_wp2
          rw [HWp.out]
          go_still_tail 13, (by kernel_rfl)
          still_call (HAt.out)
          repeat still_step
          refine wpStill_nil ?_
          change wpList _ _ _ _ _ wp.drew
          go_wp2
          go_roundw
          case rel =>
            refine ⟨i + 1, by omega, by go_num, ?_, HBn.out.drew⟩
            rw [HN.out]
            congr 1
            split <;> omega
          case measure => simp [intOf]; omega
        · have htk' : ¬ (k : Int) > p3 := htk
          have HN : Hid (M.rd (M.hisF pre) k e (l.take (i + 1)) least = v) := by
            show _ = _
            rw [hv]
            exact M.rd_no (M.hisF pre) l least (by rw [HL.out]; exact hil) hp (fun q => htk q.2)
          clear hp hv hbp hte hmem
          go_wp2
          go_roundw
          case rel => exact ⟨i + 1, by omega, by go_num, by rw [HN.out], HBn⟩
          case measure => simp [intOf]; omega
      · have hte' : ((e' : Int) == (e : Int)) = false := by simp; omega
        have HN : Hid (M.rd (M.hisF pre) k e (l.take (i + 1)) least = v) := by
          show _ = _
          rw [hv]
          exact M.rd_no (M.hisF pre) l least (by rw [HL.out]; exact hil) hp (fun q => hte (by have := q.1; omega))
        clear hp hv hbp hte hmem
        go_wp2
        go_roundw
        case rel => exact ⟨i + 1, by omega, by go_num, by rw [HN.out], HBn⟩
        case measure => simp [intOf]; omega
    · obtain rfl : i = n := by omega
      have HE : Hid (l.take i = l) := List.take_of_length_le (by rw [HL.out]; exact Nat.le_refl _)
      rw [HE.out]
      go_wp2
      go_ret
      exact ⟨rfl, HB.out⟩
set_option maxRecDepth 100000 in
set_option maxHeartbeats 4000000 in
theorem enabledE (N : Nat) (a : Option Addr) (n cap : Nat) (l : List M.Pc) (ta : Option Addr) (tc : Nat) (pre : List M.Fr) (w : World) (h : Pls w a n l) (hg : M.isGr (N : Int) l = true) (hM : Mat w ta N (M.hisM N pre)) (hlen : pre.length ≤ 500) :
    Calls Try.prog 81 #[.agg #[.int .i64 N, .slice a n cap], .slice ta N tc] w fun z w' => ∃ b c, z = .returned (.slice b (M.enL l pre N).length c) ∧ Own w' w.heap.size (.slice b (M.enL l pre N).length c) (M.enL l pre N) ∧ Below w.heap.size w w' := by
  obtain ⟨n1, n2, -⟩ := gr_NF hg
  have hb0 := b_alloc w (.cells #[.int .i64 N, .slice a n cap] 41)
  have hGb := gBox_new w N a n cap 41
  obtain ⟨wb, hwb⟩ : ∃ z, z = w.alloc (.cells #[.int .i64 N, .slice a n cap] 41) := ⟨_, rfl⟩
  have hO0 : Hid (Own wb (w.heap.size + 1) (.slice none 0 0) (M.enL l pre 0)) := own_nil _ _
  have HE : Hid (∀ (e : Nat) W, Below w.heap.size w W → Calls Try.prog 124 #[.agg #[.int .i64 N, .slice a n cap], .slice ta N tc, .int .i64 e] W fun z w' => z = .returned (.bool (M.enB l pre e)) ∧ Below W.heap.size W w') := fun e W hW => isEnabledE N a n cap l ta tc pre e W (h.below hW) hg (hM.below hW) hlen
  obtain ⟨g0, g1⟩ := hGb
  have hG1 : Hid (GBox wb w.heap.size N a n cap) := by show GBox _ _ _ _ _ _; rw [hwb]; exact ⟨g0, g1⟩
  have HB0 : Hid (Below w.heap.size w wb) := by show Below _ _ _; rw [hwb]; exact hb0
  have HWb := Lib.hid hwb.symm
  clear h hg hM hb0 hwb
  go_enter Try.func81, Try.ntmps81
  go_wp2
  rw [HWb.out]
  clear g0 g1 HWb
  go_loopw [5, 9] (fun lv kv wr => ∃ (k : Nat) (b : Option Addr) (c : Nat), k ≤ N ∧ kv = .int .i64 k ∧ lv = .slice b (M.enL l pre k).length c ∧ Hid (Own wr (w.heap.size + 1) (.slice b (M.enL l pre k).length c) (M.enL l pre k)) ∧ Hid (GBox wr w.heap.size N a n cap) ∧ Hid (Below w.heap.size w wr)) (fun _ kv _ => N - (intOf kv).toNat)
  case atStart => exact ⟨0, _, _, Nat.zero_le _, rfl, rfl, hO0, hG1, HB0⟩
  case round =>
    obtain ⟨k, b, c, hk, rfl, rfl, HO, HG, HB⟩ := hrel
    obtain ⟨wo, rfl⟩ : ∃ x, x = wr := ⟨_, rfl⟩
    clear hO0 hG1 HB0
    obtain ⟨g0, g1⟩ := HG.out
    by_cases hkl : k < N
    · have hki : (k : Int) < (N : Int) := by omega
      have hsz1 : w.heap.size + 1 ≤ wo.heap.size := cell_lt g0
      have hlen2 : (M.enL l pre k).length ≤ 10 := by have := M.enL_len l pre k; omega
      have HNx : Hid (M.enL l pre (k + 1) = if M.enB l pre k then M.enL l pre k ++ [(k : Int)] else M.enL l pre k) := rfl
      obtain ⟨t, ht⟩ : ∃ t, t = M.enB l pre k := ⟨_, rfl⟩
      have hcall := HE.out k wo HB.out
      rw [← ht] at HNx hcall
      have HCa := Lib.hid hcall
      clear ht hcall
      go_wp2_with fail
      refine (HCa.out).mono ?_
      rintro z w3 ⟨rfl, hb3⟩
      have HO3 := Lib.hid (HO.out.below hb3)
      have HB3 := Lib.hid (HB.out.trans (hb3.mono HB.out.size))
      have HG3 := Lib.hid (HG.out.below hb3)
      have hsz3 : w.heap.size + 1 ≤ w3.heap.size := Nat.le_trans hsz1 hb3.size
      clear hb3 HO HG g0 g1 hsz1
      obtain ⟨g0, g1⟩ := HG3.out
      cases t with
      | true =>
        have HN : Hid (M.enL l pre (k + 1) = M.enL l pre k ++ [(k : Int)]) := HNx.out
        have HNl : Hid ((M.enL l pre (k + 1)).length = (M.enL l pre k).length + 1) := by show _ = _; rw [HN.out]; simp
        obtain ⟨L, hL⟩ : ∃ L, L = (M.enL l pre k).length := ⟨_, rfl⟩
        rw [← hL] at HO3 HNl hlen2 ⊢
        have HLl := Lib.hid hL.symm
        clear hL
        go_wp2_with (at_builtin; refine append1 _ rfl (.tmp 16) (.tmp 18) rfl (w.heap.size + 1) _ _ _ L HLl.out rfl HO3.out rfl (by rw [HLl.out]; omega) hsz3 ?_)
        intro b2 c2' w4 hO2 hb2 hk2
        rw [← HN.out, ← HNl.out] at hO2
        have HO4 := Lib.hid hO2
        have HB4 := Lib.hid (HB3.out.trans (hb2.mono (by omega)))
        have HG4 : Hid (GBox w4 w.heap.size N a n cap) := by
          have hne : (Value.slice b L c).ownBlock ≠ some w.heap.size := fun q => absurd (own_lt HO3.out q).1 (by omega)
          have e := hk2 w.heap.size (cell_lt g0) hne
          exact ⟨(World.cell?_of_block (a := ⟨w.heap.size, 0, none⟩) e).trans g0, (World.cell?_of_block (a := ⟨w.heap.size, 1, none⟩) e).trans g1⟩
        rw [← HNl.out]
        clear hO2 hb2 hk2 g0 g1
        go_wp2
        go_roundw
        case rel => exact ⟨k + 1, _, _, by omega, by go_num, rfl, HO4, HG4, HB4⟩
        case measure => simp [intOf]; omega
      | false =>
        have HN : Hid (M.enL l pre (k + 1) = M.enL l pre k) := HNx.out
        go_wp2
        go_roundw
        case rel => exact ⟨k + 1, _, _, by omega, by go_num, by rw [HN.out], by rw [HN.out]; exact HO3, HG3, HB3⟩
        case measure => simp [intOf]; omega
    · obtain rfl : k = N := by omega
      go_wp2
      go_ret
      exact ⟨_, _, rfl, HO.out.mono (by omega), HB.out⟩
end V
end Go.Proofs.Ytjbffpmelglegaa
