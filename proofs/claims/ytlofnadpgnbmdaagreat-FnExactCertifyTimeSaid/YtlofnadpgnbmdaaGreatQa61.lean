/- Texts laid together: Crf. -/
import Derived.Test.YtlofnadpgnbmdaaGreatQa60
import Derived.WalkMore
import Derived.Deep.LoopGhost
import Derived.Scope
import Derived.Shelf.RegionOpen
set_option linter.unusedSimpArgs false
set_option linter.unusedVariables false
set_option linter.unusedSectionVars false
namespace Go.Proofs.YtlofnadpgnbmdaaGreat.V
set_option maxRecDepth 100000
open Go Go.RowKit Go.Shelf
set_option maxRecDepth 100000 in
set_option maxHeartbeats 1000000 in
theorem cloneC (a : Option Addr) (n cap : Nat) (l : List Int) (w : World) (h : Ints .i64 w a n l) (h0 : 0 < n) (hn : n ≤ 1000) :
    Calls Tryz.prog 129 #[.slice a n cap] w fun e w' => ∃ b c, e = .returned (.slice b n c) ∧ Own w' w.heap.size (.slice b n c) l ∧ Below w.heap.size w w' := by
  obtain ⟨hl, hm, hr⟩ := h
  rcases hr with hr | ⟨b, off, rfl, hb, hc⟩
  · omega
  have HL := Lib.hid hl
  have HC := Lib.hid hc
  have HO : Hid (Own (w.alloc (.cells #[] 2)) w.heap.size (.slice (some ⟨w.heap.size, 0, none⟩) 0 0) []) := own_lit0 w _ (Nat.le_refl _)
  obtain ⟨i0, hi, hz0, hz1, hz2⟩ := info_parts info64
  clear hl hc hm
  have HI := Lib.hid hi
  clear hi
  have hnil := fun w : World => Lib.run_eql_slice_nil (P := Tryz.prog) w 92 2 (some (⟨b, off, none⟩ : Addr)) n cap 0 0 Tryz.underlying92
  go_enter Tryz.func129, Tryz.ntmps129
  go_wp2_with (at_builtin; refine wpList_append_own_at (w := w.alloc (.cells #[] 2)) rfl (.tmp 5) (.tmp 6) 92 rfl w.heap.size 2 i0 (.int .i64 0) 1 8 Tryz.underlying92 HI.out hz0 hz1 hz2 rfl (by decide) (.slice (some ⟨w.heap.size, 0, none⟩) 0 0) 0 [] rfl HO.out ⟨b, off, none⟩ n cap (l.map (Value.int .i64)) rfl ?c0 ?c1 ?c2 ?c3 ?c4 ?c5 ?_)
  case c0 => have := HL.out; simp [this]
  case c1 =>
    refine ints_cells (fun i hi' => ?_) HL.out
    rw [(b_alloc w _).cell (p := ⟨b, off + i, none⟩) hb]; exact HC.out i hi'
  case c2 => intro u hu; obtain ⟨x, _, rfl⟩ := List.mem_map.1 hu; rfl
  case c3 => unfold maxLen; omega
  case c4 => omega
  case c5 => simp
  intro v' w' ho hg hz hv
  have ho' : Own w' w.heap.size v' l := by
    show w'.ownsRow w.heap.size _ 1 v' l.length (l.map (Value.int .i64))
    rw [HL.out]
    simpa using ho
  obtain ⟨b', c', rfl, _⟩ := own_form ho'
  rw [HL.out] at ho' ⊢
  have HB : Hid (Below w.heap.size w w') := (b_alloc w _).grown hg (by simp) (fun k hk => by simp [Value.ownBlock] at hk; omega)
  have HO' := Lib.hid ho'
  clear ho ho' hg hz hv
  go_wp2
  go_ret
  exact ⟨_, _, rfl, HO'.out, HB.out⟩
theorem cirQ_bd {l : List M.Pc} {c : List Int} (h1 : 0 ≤ M.dlS l c) (h2 : M.dlS l c ≤ 10000) (h3 : 0 < M.tkS l c) (h4 : M.tkS l c ≤ 50) : -1000000 ≤ (M.cirQ l c).1 ∧ (M.cirQ l c).1 ≤ 1000000 ∧ -1000000 ≤ (M.cirQ l c).2 ∧ (M.cirQ l c).2 ≤ 1000000 :=
  M.rat_bd (by simp [M.isFin]; omega) (by simp [M.isFin]; omega)
attribute [local go_sem] Oper.semAt_some
set_option maxRecDepth 100000 in
set_option maxHeartbeats 4000000 in
theorem bestCircuitP (N : Nat) (a : Option Addr) (n cap : Nat) (l : List M.Pc) (w0 : World) (h : Pls w0 a n l) (hg : M.isGr (N : Int) l = true) (hlv : ∀ c, M.cirB l c = true → M.tkS l c ≠ 0) :
    Calls Tryz.prog 77 #[.agg #[.int .i64 N, .slice a n cap]] w0 fun e w' => ∃ v, e = .returned v ∧ Below w0.heap.size w0 w' ∧ ((M.allC l 10 = [] ∧ v = .slice none 0 0) ∨ (M.allC l 10 ≠ [] ∧ ∃ b m c, v = .slice (some ⟨b, 0, none⟩) m c ∧ Own w' w0.heap.size (.slice (some ⟨b, 0, none⟩) m c) (M.bstL l (M.allC l 10)))) := by
  obtain ⟨he, N1, N2, l30⟩ := M.gr_ev hg
  have HP := Lib.hid h
  have HG := Lib.hid hg
  have HLv := Lib.hid hlv
  have HE := Lib.hid he
  have hn30 : n ≤ 30 := by rw [← h.1]; exact l30
  have HE10 : Hid (M.evOk l 10) := fun i hi => by have := he i hi; omega
  obtain ⟨g0, g1⟩ := (gBox_new w0 N a n cap 26).below (b_alloc2 _ (.cells #[.slice none 0 0] 92) (.cells #[.int .i64 0, .int .i64 0] 37))
  clear h hg hlv he
  refine callsIn_wide.1 (callsIn_of_wp_marks (n := 3) Tryz.func77 rfl trivial (wpIn_wide.2 ?_) rfl)
  simp only [Tryz.ntmps77, List.size_toArray, List.length_cons, List.length_nil, Nat.reduceAdd, Nat.reduceSub, Array.replicate_succ, Array.replicate_zero, List.push_toArray, List.append_toArray, List.nil_append, List.cons_append]
  go_wp2_with (go_at_call 128; refine (circuitsC _ _ _ _ _).mono ?_; rintro e2 w2 ⟨rfl, rfl⟩)
  clear g0 g1
  obtain ⟨w3, hw3⟩ : ∃ z, z = ((w0.alloc (.cells #[.int .i64 N, .slice a n cap] 26)).alloc (.cells #[.slice none 0 0] 92)).alloc (.cells #[.int .i64 0, .int .i64 0] 37) := ⟨_, rfl⟩
  obtain ⟨w2, hw2⟩ : ∃ z, z = w3.alloc (.cells #[.int .i64 N, .slice a n cap] 26) := ⟨_, rfl⟩
  have hs3 : w3.heap.size = w0.heap.size + 1 + 1 + 1 := by rw [hw3]; simp
  have hD2 : w2.heap.size = w0.heap.size + 4 := by rw [hw2]; simp [hs3]
  have hC : CK w0 (w0.heap.size + 1) (w0.heap.size + 1 + 1) w0.heap.size (w0.heap.size + 1 + 1 + 1) w2.heap.size (w2.heap.size + 2) := by
    refine ⟨by omega, by omega, by omega, by omega, by omega, by omega, by omega, by omega, by omega, by omega, by omega, by omega, by omega⟩
  have hb3 : Below w0.heap.size w0 w3 := by rw [hw3]; exact (b_alloc2 w0 _ _).trans ((b_alloc _ _).mono (by simp; omega))
  have hb2 : Below w3.heap.size w3 w2 := by rw [hw2]; exact b_alloc _ _
  have hJ : JB w0 (w0.heap.size + 1) (w0.heap.size + 1 + 1) w0.heap.size (w0.heap.size + 1 + 1 + 1) l N a n cap [] w2 := by
    refine ⟨hb3.trans (hb2.mono hb3.size), ?_, ?_, ?_, .inl ⟨rfl, ?_, ?_⟩⟩
    · rw [hb2.frozen (p := ⟨w0.heap.size + 1, 0, none⟩) (by show w0.heap.size + 1 < _; omega), hw3]; simp [go_sem]
    · refine GBox.below ?_ hb2
      rw [hw3]; exact ((gBox_new w0 N a n cap 26).below (b_alloc _ _)).below (b_alloc _ _)
    · have := gBox_new w3 N a n cap 26
      rw [← hw2, hs3] at this; exact this
    · rw [hb2.cell (p := ⟨w0.heap.size + 1, 0, none⟩) (by show w0.heap.size + 1 < _; omega), hw3]; simp [go_sem]
    · refine RR.below ?_ hb2
      have := RR.new ((w0.alloc (.cells #[.int .i64 N, .slice a n cap] 26)).alloc (.cells #[.slice none 0 0] 92)) 0 0
      rw [World.size_alloc, World.size_alloc] at this
      rw [hw3]; exact this
  have HC := Lib.hid hC
  have HJ := Lib.hid hJ
  have HD2 := Lib.hid hD2
  rw [← hw3, ← hw2]
  clear hw2 hw3 hs3 hb3 hb2 hC hJ hD2
  refine (wpIn_wide (n := 3)).1 ?_
  refine rangeFold (gf := 155) (lb := #[.pointer (some ⟨w0.heap.size + 1 + 1 + 1, 0, none⟩)]) rfl (enters_of Tryz.func155 (by kernel_rfl) rfl) (bbOf (w0.heap.size + 1)) ?hbb (PreY w2.heap.size l) ?hps
    (JB w0 (w0.heap.size + 1) (w0.heap.size + 1 + 1) w0.heap.size (w0.heap.size + 1 + 1 + 1) l N a n cap) (M.allC l 10) ?hJl ?hJ0 ?hiter
    (fun x => match x.toList with
      | [p] => { tmps := #[.agg #[.int .i64 N, .slice a n cap], .pointer (some ⟨w0.heap.size, 0, none⟩), .slice none 0 0, .pointer (some ⟨w0.heap.size + 1, 0, none⟩), .pointer (some ⟨w0.heap.size + 1 + 1, 0, none⟩), p, undef, .agg #[.int .i64 N, .slice a n cap], .func (.func 155) #[] #[.pointer (some ⟨w0.heap.size + 1 + 1 + 1, 0, none⟩)], p, undef, undef, undef, undef, undef, undef, undef, undef, undef, undef, undef, undef, undef, undef, undef], defers := [] }
      | _ => { tmps := #[], defers := [] }) ?hassign ?hbody ?hdone
  case hbb =>
    intro W k o hk
    exact bbOf_eq (World.putObj_heap_other (by have := HD2.out; omega))
  case hps => rintro p x W ⟨b, m, c, rfl, -⟩; rfl
  case hJl =>
    intro ys W k o hJ hk
    have hD := HD2.out
    have hbig : ∀ q, bbOf (w0.heap.size + 1) W = some q → w2.heap.size + 2 ≤ q := fun q hq => by
      obtain ⟨-, -, -, -, ⟨-, h1, -⟩ | ⟨-, b, m, c, h1, h2, -, -⟩⟩ := hJ
      · unfold bbOf at hq; rw [h1] at hq; cases hq
      · unfold bbOf at hq; rw [h1] at hq; have := (own_lt h2 hq).1; omega
    refine (JB.ch (B := W.putObj k o) HC.out hJ ⟨rfl, rfl, rfl, by simp, fun q hq1 hq2 => World.putObj_heap_other ?_⟩).1
    rcases hq2 with e | e
    · omega
    · have := hbig q e; omega
  case hJ0 => intro W hb; exact (HJ.out.ch HC.out (Ch.of_below hb)).1
  case hiter =>
    intro W1 hb1 hs1 hJ1 hY
    refine callsIn_wide.2 (circuits1 w0 W1 (w0.heap.size + 1) (w0.heap.size + 1 + 1) w0.heap.size (w0.heap.size + 1 + 1 + 1) w2.heap.size l N a n cap HC.out hs1 HP.out HE10.out hn30 hJ1 ?_)
    intro ys p v W m hp hJ h1 h2 h3
    exact hY ys p v W m hp hJ h1 h2 h3
  case hassign =>
    intro l' p x W m K' hp hK'
    obtain ⟨b, m', c, rfl, -⟩ := hp
    gi_wp2
    exact hK'
  case hbody =>
    intro ys p x W o m hp hJW hJ hsz
    obtain ⟨b, m', c, rfl, ho, hcir⟩ := hp
    have hD := HD2.out
    have hlen := M.cir_len HE.out hcir
    have hm' : m' = p.length := ho.len
    have hp0 : 0 < p.length := (M.cir_t hcir).1
    have hbd := M.sums_bd HE.out N2 hcir
    have htk := HLv.out p hcir
    have hQp := cirQ_bd hbd.1 hbd.2.1 (by omega) hbd.2.2.2
    obtain ⟨Wb, hWb⟩ : ∃ z, z = W.putObj (w2.heap.size + 1) o := ⟨_, rfl⟩
    have hbk : ∀ k, k ≠ w2.heap.size + 1 → Wb.heap[k]? = W.heap[k]? := fun k hk => by rw [hWb]; exact World.putObj_heap_other hk
    have hsb : Wb.heap.size = W.heap.size := by rw [hWb]; simp
    rw [← hWb] at hJ ⊢
    have hoB : Own Wb (w2.heap.size + 2) (.slice b m' c) p := ownsRow_keep ho (fun q hq => hbk q (by have := (own_lt ho hq).1; omega))
    have HBB : Hid (bbOf (w0.heap.size + 1) Wb = bbOf (w0.heap.size + 1) W) := bbOf_eq (hbk _ (by omega))
    have HRt : Hid (∀ V, Below Wb.heap.size Wb V → Calls Tryz.prog 65 #[.slice b m' c, .agg #[.int .i64 N, .slice a n cap]] V fun e w' => e = .returned (.agg #[.int .i64 (M.cirQ l p).1, .int .i64 (M.cirQ l p).2]) ∧ Below V.heap.size V w') := fun V hV =>
      cirratio N a n cap l b m' c p V (HP.out.below (hJ.1.trans (hV.mono hJ.1.size))) HG.out (hoB.ints'.below hV) hcir htk
    have HCl : Hid (∀ V, Below Wb.heap.size Wb V → Calls Tryz.prog 129 #[.slice b m' c] V fun e w' => ∃ b c, e = .returned (.slice b m' c) ∧ Own w' V.heap.size (.slice b m' c) p ∧ Below V.heap.size V w') := fun V hV => cloneC b m' c p V (hoB.ints'.below hV) (by omega) (by omega)
    have HSb := Lib.hid hsb
    have HSz : Hid (w2.heap.size + 2 ≤ W.heap.size) := hsz
    have HJb := Lib.hid hJ
    have HCi := Lib.hid hcir
    have HQp := Lib.hid hQp
    have HTk : Hid (0 < M.tkS l p) := by show _ < _; omega
    have HP0 := Lib.hid hp0
    obtain ⟨g0, g1⟩ := hJ.2.2.1
    have hl1 : w0.heap.size < Wb.heap.size := cell_lt g0
    have hl2 : w0.heap.size + 1 < Wb.heap.size := hJ.lt.1
    have hl3 : w0.heap.size + 1 + 1 < Wb.heap.size := hJ.lt.2
    have f0 := hJ.2.1
    clear ho hoB hWb hbk hlen hm' hbd htk hQp hcir hJW hsb hp0
    have hmo : Tryz.prog.follows .mixedOrders = true := by kernel_rfl
    have hnil0 := fun w : World => Lib.run_eql_slice_nil (P := Tryz.prog) w 92 2 none 0 0 0 0 Tryz.underlying92
    change Code.wpIn _ _ _ _ _ { tmps := #[.agg #[.int .i64 N, .slice a n cap], .pointer (some ⟨w0.heap.size, 0, none⟩), .slice none 0 0, .pointer (some ⟨w0.heap.size + 1, 0, none⟩), .pointer (some ⟨w0.heap.size + 1 + 1, 0, none⟩), .slice b m' c, undef, .agg #[.int .i64 N, .slice a n cap], .func (.func 155) #[] #[.pointer (some ⟨w0.heap.size + 1 + 1 + 1, 0, none⟩)], .slice b m' c, undef, undef, undef, undef, undef, undef, undef, undef, undef, undef, undef, undef, undef, undef, undef], defers := [] } _
    rcases hJ.2.2.2.2 with ⟨rfl, c0, r0⟩ | ⟨hne, b2, m2, c2, c0, ho2, r0, hc2⟩
    · clear hJ
      gi_wp2_with (refine ⟨trivial, fun h => by simp [Fence.wide] at h, ?_⟩; gi_at_call 65; refine (CallsIn.inRound _ (callsIn_wide.2 (HRt.out _ (Below.refl _ _)))).mono ?_; rintro e3 w4 ⟨rfl, hb4⟩; have HB4 := Lib.hid hb4; have c04 := (hb4.cell (p := ⟨w0.heap.size + 1, 0, none⟩) hl2).trans c0; have hz4 : w0.heap.size + 1 < w4.heap.size := cell_lt c04; clear hb4)
      refine ⟨trivial, ?_⟩
      gi_wp2
      have HBst : Hid (M.bstL l ([] ++ [p]) = p) := rfl
      have HB5 : Hid (Below Wb.heap.size Wb (w4.alloc (.cells #[.int .i64 (M.cirQ l p).1, .int .i64 (M.cirQ l p).2] 37)).drew) := (HB4.out.alloc HB4.out.size _).drew
      have HX5 : Hid (RR (w4.alloc (.cells #[.int .i64 (M.cirQ l p).1, .int .i64 (M.cirQ l p).2] 37)).drew w4.heap.size ((M.cirQ l p).1, (M.cirQ l p).2)) := (RR.new w4 _ _).eq rfl
      gi_region_with_o (refine ⟨trivial, fun h => by simp [Fence.wide] at h, ?_⟩; gi_at_call 129; refine (CallsIn.inRound _ (callsIn_wide.2 (HCl.out _ HB5.out))).mono ?_; rintro e6 w6 ⟨b6, c6, rfl, ho6, hb6⟩; have HB6 := Lib.hid (HB5.out.trans (hb6.mono HB5.out.size)); have HO6 := Lib.hid ho6; have J6 := (JB.ch HC.out HJb.out (Ch.of_below HB6.out)).1; obtain ⟨g6, rfl, hg6⟩ := own_head ho6 HP0.out; obtain ⟨x0, x1⟩ := (HX5.out.below hb6).c; have c06 := (HB6.out.cell (p := ⟨w0.heap.size + 1, 0, none⟩) hl2).trans c0; have f06 := J6.2.1; obtain ⟨y0, y1⟩ := (r0.below HB6.out).c; have fy := fun j => (r0.below HB6.out).frozen j; have HJ6 := Lib.hid J6; have HG6 : Hid (Wb.heap.size ≤ g6) := Nat.le_trans HB5.out.size hg6; clear ho6 hb6 J6 hg6)
      all_goals
        gi_wp2
        have hU := JB.upd HC.out HJ6.out (HO6.out.mono (by have := HB5.out.size; have := HSz.out; have := HSb.out; have := HD2.out; omega)) HBst.out HCi.out
        have z1 := HB6.out.size
        have z2 := HSb.out
        have z3 := HSz.out
        have z4 := HD2.out
        have z5 := HG6.out
        have z6 := HB4.out.size
        refine ⟨hU.1, ?_, ?_, ?_⟩
        · first | omega | (rw [hU.2.2.1]; omega)
        · intro k hk1 hk2
          rw [hU.2.1 k (by omega) (by omega)]
          exact HB6.out.block k (by omega)
        · intro q hq
          rw [hU.2.2.2] at hq
          have : g6 = q := by injection hq
          subst this
          right; omega
    · have hcn := M.cir_t hc2
      have HBn : Hid (M.bstL l ys ≠ []) := fun e => by rw [e] at hcn; simp at hcn
      have hbd2 := M.sums_bd HE.out N2 hc2
      have htk2 := HLv.out _ hc2
      obtain ⟨q1, q2, q3, q4⟩ := cirQ_bd hbd2.1 hbd2.2.1 (by omega) hbd2.2.2.2
      obtain ⟨q5, q6, q7, q8⟩ := HQp.out
      have HGt := Lib.hid (M.gt_rat (d := M.dlS l p) (m := M.tkS l p) (e := M.dlS l (M.bstL l ys)) (n := M.tkS l (M.bstL l ys)) HTk.out (by omega))
      have HSn := Lib.hid (M.bst_snoc l ys p)
      have m1 := M.mul_bd (M.cirQ l p).1 (M.cirQ l (M.bstL l ys)).2 q5 q6 q3 q4
      have m2' := M.mul_bd (M.cirQ l (M.bstL l ys)).1 (M.cirQ l p).2 q1 q2 q7 q8
      obtain ⟨y, hy⟩ : ∃ y, y = M.cmpZ ((M.cirQ l p).1 * (M.cirQ l (M.bstL l ys)).2) ((M.cirQ l (M.bstL l ys)).1 * (M.cirQ l p).2) := ⟨_, rfl⟩
      have HCm : Hid (∀ V, Calls Tryz.prog 87 #[.agg #[.int .i64 (M.cirQ l p).1, .int .i64 (M.cirQ l p).2], .agg #[.int .i64 (M.cirQ l (M.bstL l ys)).1, .int .i64 (M.cirQ l (M.bstL l ys)).2]] V fun e w' => e = .returned (.int .i64 y) ∧ Below V.heap.size V w') := fun V => by
        rw [hy]; exact compareM _ _ _ _ V (by omega) (by omega) (by omega) (by omega)
      have hnil1 := fun w : World => Lib.run_eql_slice_nil (P := Tryz.prog) w 92 2 (some (⟨b2, 0, none⟩ : Addr)) m2 c2 0 0 Tryz.underlying92
      have HNe := Lib.hid hne
      have HR0 := Lib.hid r0
      obtain ⟨k0, k1⟩ := r0.c
      have hyd : y = M.cmpZ ((M.cirQ l p).1 * (M.cirQ l (M.bstL l ys)).2) ((M.cirQ l (M.bstL l ys)).1 * (M.cirQ l p).2) := hy
      have HYd := Lib.hid hyd
      clear hJ hcn hbd2 htk2 q1 q2 q3 q4 q5 q6 q7 q8 m1 m2' hy hyd hne ho2 hc2
      by_cases hgt : y > 0
      · have HBst : Hid (M.bstL l (ys ++ [p]) = p) := by
          show _ = _
          have hg : (M.cirQ l (M.bstL l ys)).1 * (M.cirQ l p).2 < (M.cirQ l p).1 * (M.cirQ l (M.bstL l ys)).2 := by
            have := HYd.out
            unfold M.cmpZ at this
            split at this
            · omega
            · split at this
              · assumption
              · omega
          rw [HSn.out]
          unfold M.bstS M.gtC
          rw [if_neg HBn.out, decide_eq_true (HGt.out.1 hg), if_pos rfl]
        clear r0
        gi_wp2_with (first
          | (refine ⟨trivial, fun h => by simp [Fence.wide] at h, ?_⟩; gi_at_call 65; refine (CallsIn.inRound _ (callsIn_wide.2 (HRt.out _ (Below.refl _ _)))).mono ?_; rintro e3 w4 ⟨rfl, hb4⟩; have HB4 := Lib.hid hb4; have c04 := (hb4.cell (p := ⟨w0.heap.size + 1, 0, none⟩) hl2).trans c0; have hz4 : w0.heap.size + 1 < w4.heap.size := cell_lt c04; have k04 := (hb4.cell (p := ⟨w0.heap.size + 1 + 1, 0, none⟩) hl3).trans k0; have k14 := (hb4.cell (p := ⟨w0.heap.size + 1 + 1, 1, none⟩) hl3).trans k1; have hz5 : w0.heap.size + 1 + 1 < w4.heap.size := cell_lt k04; clear hb4)
          | (refine ⟨trivial, fun h => by simp [Fence.wide] at h, ?_⟩; gi_at_call 87; refine (CallsIn.inRound _ (callsIn_wide.2 (HCm.out _))).mono ?_; rintro e5 w5 ⟨rfl, hb5⟩; have HBc := Lib.hid hb5; clear hb5))
        have HB5 : Hid (Below Wb.heap.size Wb w5.drew) := ((HB4.out.alloc HB4.out.size _).trans (HBc.out.mono (by have := HB4.out.size; simp; omega))).drew
        have HX4 : Hid (RR w5 w4.heap.size ((M.cirQ l p).1, (M.cirQ l p).2)) := (RR.new w4 _ _).below HBc.out
        have HX5 : Hid (RR w5.drew w4.heap.size ((M.cirQ l p).1, (M.cirQ l p).2)) := HX4.out.eq rfl
        obtain ⟨v0, v1⟩ := HX4.out.c
        gi_region_with_o (refine ⟨trivial, fun h => by simp [Fence.wide] at h, ?_⟩; gi_at_call 129; refine (CallsIn.inRound _ (callsIn_wide.2 (HCl.out _ HB5.out))).mono ?_; rintro e6 w6 ⟨b6, c6, rfl, ho6, hb6⟩; have HB6 := Lib.hid (HB5.out.trans (hb6.mono HB5.out.size)); have HO6 := Lib.hid ho6; have J6 := (JB.ch HC.out HJb.out (Ch.of_below HB6.out)).1; obtain ⟨g6, rfl, hg6⟩ := own_head ho6 HP0.out; obtain ⟨x0, x1⟩ := (HX5.out.below hb6).c; have c06 := (HB6.out.cell (p := ⟨w0.heap.size + 1, 0, none⟩) hl2).trans c0; have f06 := J6.2.1; obtain ⟨y0, y1⟩ := (HR0.out.below HB6.out).c; have fy := fun j => (HR0.out.below HB6.out).frozen j; have HJ6 := Lib.hid J6; have HG6 : Hid (Wb.heap.size ≤ g6) := Nat.le_trans HB5.out.size hg6; clear ho6 hb6 J6 hg6)
        all_goals
          gi_wp2
          have hU := JB.upd HC.out HJ6.out (HO6.out.mono (by have := HB5.out.size; have := HSz.out; have := HSb.out; have := HD2.out; omega)) HBst.out HCi.out
          have z1 := HB6.out.size
          have z2 := HSb.out
          have z3 := HSz.out
          have z4 := HD2.out
          have z5 := HG6.out
          have z6 := HB4.out.size
          refine ⟨hU.1, ?_, ?_, ?_⟩
          · first | omega | (rw [hU.2.2.1]; omega)
          · intro k hk1 hk2
            rw [hU.2.1 k (by omega) (by omega)]
            exact HB6.out.block k (by omega)
          · intro q hq
            rw [hU.2.2.2] at hq
            have : g6 = q := by injection hq
            subst this
            right; omega
      · have HBst : Hid (M.bstL l (ys ++ [p]) = M.bstL l ys) := by
          show _ = _
          have hg : ¬ ((M.cirQ l (M.bstL l ys)).1 * (M.cirQ l p).2 < (M.cirQ l p).1 * (M.cirQ l (M.bstL l ys)).2) := fun h => by
            have := HYd.out
            unfold M.cmpZ at this
            rw [if_neg (by omega), if_pos h] at this
            omega
          rw [HSn.out]
          unfold M.bstS M.gtC
          rw [if_neg HBn.out, decide_eq_false (fun h => hg (HGt.out.2 h)), if_neg (by simp)]
        clear r0
        gi_wp2_with (first
          | (refine ⟨trivial, fun h => by simp [Fence.wide] at h, ?_⟩; gi_at_call 65; refine (CallsIn.inRound _ (callsIn_wide.2 (HRt.out _ (Below.refl _ _)))).mono ?_; rintro e3 w4 ⟨rfl, hb4⟩; have HB4 := Lib.hid hb4; have c04 := (hb4.cell (p := ⟨w0.heap.size + 1, 0, none⟩) hl2).trans c0; have hz4 : w0.heap.size + 1 < w4.heap.size := cell_lt c04; have k04 := (hb4.cell (p := ⟨w0.heap.size + 1 + 1, 0, none⟩) hl3).trans k0; have k14 := (hb4.cell (p := ⟨w0.heap.size + 1 + 1, 1, none⟩) hl3).trans k1; have hz5 : w0.heap.size + 1 + 1 < w4.heap.size := cell_lt k04; clear hb4)
          | (refine ⟨trivial, fun h => by simp [Fence.wide] at h, ?_⟩; gi_at_call 87; refine (CallsIn.inRound _ (callsIn_wide.2 (HCm.out _))).mono ?_; rintro e5 w5 ⟨rfl, hb5⟩; have HBc := Lib.hid hb5; clear hb5))
        have HB5 : Hid (Below Wb.heap.size Wb w5) := (HB4.out.alloc HB4.out.size _).trans (HBc.out.mono (by have := HB4.out.size; simp; omega))
        obtain ⟨j1, j2⟩ := JB.ch HC.out HJb.out (Ch.of_below HB5.out)
        have z1 := HB5.out.size
        have z2 := HSb.out
        refine ⟨j1.same HNe.out HBst.out, by omega, fun k hk1 hk2 => HB5.out.block k (by omega), fun q hq => ?_⟩
        rw [j2, HBB.out] at hq
        exact .inl hq
  case hdone =>
    intro W hJ hsz hD
    have hD2' := HD2.out
    have HMk : Hid (Marks w0.heap.size [w2.heap.size] W) := ⟨by simp, fun E hE => by
      obtain rfl := List.mem_singleton.1 hE
      exact ⟨by omega, hD⟩⟩
    have HBl := Lib.hid hJ.1
    obtain ⟨-, -, -, -, ⟨q1, c0, -⟩ | ⟨q1, b, m, c, c0, ho, -, -⟩⟩ := hJ
    · have HQ := Lib.hid q1
      clear q1 hD hsz
      go_wp2
      exact leaves_marks (lo := w0.heap.size) (fun W' => Below w0.heap.size w0 W')
        (fun A D o hA hlo' hD' => ⟨hA.os, hA.tape, hA.output, by have := hA.size; simpa using this, fun r hr => (World.putObj_heap_other (by omega)).trans (hA.block r hr)⟩)
        (fun A hA => ⟨_, results_tmp rfl _ _ _, ⟨_, rfl, hA, .inl ⟨HQ.out, rfl⟩⟩⟩) [w2.heap.size] W HMk.out HBl.out
    · have HQ : Hid (M.allC l 10 ≠ []) := q1
      have HO : Hid (Own W w0.heap.size (.slice (some ⟨b, 0, none⟩) m c) (M.bstL l (M.allC l 10))) := ho.mono (by omega)
      clear q1 hD hsz ho
      go_wp2
      exact leaves_marks (lo := w0.heap.size) (fun W' => Own W' w0.heap.size (.slice (some ⟨b, 0, none⟩) m c) (M.bstL l (M.allC l 10)) ∧ Below w0.heap.size w0 W')
        (fun A D o hA hlo' hD' => ⟨ownsRow_keep hA.1 (fun r hr => World.putObj_heap_other (by
          have hgr : b = r := by injection hr
          subst hgr
          rintro rfl
          obtain ⟨-, ⟨hv, -⟩ | ⟨g', cap', cur, hv, -, hg', -⟩⟩ := hA.1
          · cases hv
          · injection hv with e1 e2 e3
            injection e1 with e1
            injection e1 with e1
            subst e1
            rw [hD'] at hg'
            cases hg')), ⟨hA.2.os, hA.2.tape, hA.2.output, by have := hA.2.size; simpa using this, fun r hr => (World.putObj_heap_other (by omega)).trans (hA.2.block r hr)⟩⟩)
        (fun A hA => ⟨_, results_tmp rfl _ _ _, ⟨_, rfl, hA.2, .inr ⟨HQ.out, _, _, _, rfl, hA.1⟩⟩⟩) [w2.heap.size] W HMk.out ⟨HO.out, HBl.out⟩
end Go.Proofs.YtlofnadpgnbmdaaGreat.V
