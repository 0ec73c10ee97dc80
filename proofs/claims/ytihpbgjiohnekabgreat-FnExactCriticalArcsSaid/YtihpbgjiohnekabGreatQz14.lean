/- Texts laid together: It5, BarZ, Stc, Col, Pot3, Dlf. -/
import Derived.Test.YtihpbgjiohnekabGreatQz13
import Derived.Test.YtihpbgjiohnekabGreatQz7
import Derived.Test.YtihpbgjiohnekabGreatQz1
import Derived.WalkMore
import Derived.Deep.LoopGhost
import Derived.Scope
import Derived.Test.YtihpbgjiohnekabGreatQz12
import Derived.Test.YtihpbgjiohnekabGreatQz9
import Derived.Test.YtihpbgjiohnekabGreatQz8
import Derived.Test.YtihpbgjiohnekabGreatQz5
import Derived.Test.YtihpbgjiohnekabGreatQz6
import Derived.Test.YtihpbgjiohnekabGreatQz11
import Derived.Test.YtihpbgjiohnekabGreatQz10
import Derived.Lib.SliceRun
import Derived.Laws.IdiomCopy
set_option linter.unusedSimpArgs false
set_option linter.unusedVariables false
set_option linter.unusedSectionVars false
namespace Go.Proofs.YtihpbgjiohnekabGreat.V
open Go Go.RowKit Go.Shelf
attribute [local go_sem] Oper.semAt_some

theorem own_head {w : World} {B n c : Nat} {b : Option Addr} {p : List Int} (h : Own w B (.slice b n c) p) (hn : 0 < p.length) : ∃ g, b = some ⟨g, 0, none⟩ ∧ B ≤ g := by
  obtain ⟨a', c', hv, -, -, hg⟩ := own_form h
  injection hv with e1 e2 e3
  obtain ⟨g, h1, h2, -⟩ := hg hn
  exact ⟨g, by rw [e1]; exact h1, h2⟩

set_option maxRecDepth 100000 in
set_option maxHeartbeats 4000000 in
theorem smallestCycle (a : Option Addr) (n cap : Nat) (R : List (List Int)) (ov : Int) (w0 : World) (hq : Sq w0 a n R) :
    Calls Tryz.prog 90 #[.slice a n cap, .int .i64 (ov + 1)] w0 fun e w' => ∃ b n' c', e = .returned (.slice b n' c') ∧ Own w' w0.heap.size (.slice b n' c') (M.overL (M.ent R) n ov) ∧ Below w0.heap.size w0 w' := by
  obtain ⟨w, hwd⟩ : ∃ w, w = w0.alloc (.cells #[.int .i64 (ov + 1)] 2) := ⟨_, rfl⟩
  have HQ : Hid (Sq w a n R) := by rw [hwd]; exact hq.below (b_alloc _ _)
  have HW0 : Hid (Below w0.heap.size w0 w) := by rw [hwd]; exact b_alloc _ _
  have hLx : w.heap.size = w0.heap.size + 1 := by rw [hwd]; simp
  have HLC : Hid (w.cell? ⟨w0.heap.size, 0, none⟩ = some (.int .i64 (ov + 1))) := by show _ = _; rw [hwd]; simp
  have hn10 := HQ.out.2.2.2
  clear hq
  refine callsIn_wide.1 (callsIn_of_wp_marks (n := 3) Tryz.func90 rfl trivial (wpIn_wide.2 ?_) rfl)
  simp only [Tryz.ntmps90, List.size_toArray, List.length_cons, List.length_nil, Nat.reduceAdd, Nat.reduceSub, Array.replicate_succ, Array.replicate_zero, List.push_toArray, List.append_toArray, List.nil_append, List.cons_append]
  go_wp2
  rw [← hwd]
  clear hwd
  go_step3
  go_wp2
  obtain ⟨Lx, hLxd⟩ : ∃ Lx, Lx = w0.heap.size := ⟨_, rfl⟩
  rw [← hLxd] at hLx HLC ⊢
  clear hLxd
  obtain ⟨Bx, hBx'⟩ : ∃ Bx, Bx = Lx + 1 := ⟨_, rfl⟩
  have hBx : Bx = w.heap.size := by rw [hBx', hLx]
  have hlo : w.heap.size ≤ Bx := by omega
  obtain ⟨gg, hgg⟩ : ∃ gg : Nat → List Int, gg = fun (v : Nat) => M.grow (M.ent R) n ov n [(v : Int)] 0 := ⟨_, rfl⟩
  have HGG := Lib.hid hgg
  have hov : M.overL (M.ent R) n ov = M.pick gg (n - 0) 0 := by rw [hgg]; rfl
  have hcb : (w.alloc (.cells #[.slice none 0 0] 29)).cell? ⟨Bx, 0, none⟩ = some (.slice none 0 0) := by rw [hBx]; simp
  have hfb : (w.alloc (.cells #[.slice none 0 0] 29)).frozen? ⟨Bx, 0, none⟩ = false := by rw [hBx]; simp
  have hbb : Below w.heap.size w (w.alloc (.cells #[.slice none 0 0] 29)) := b_alloc _ _
  rw [← hBx']
  clear hgg hBx hBx'
  go_step3
  go_wp2
  refine wp_loop_ghost_k (fun m a' w' => ∃ (k : Nat) (Ds : List Nat) (u6 u7 u8 u12 u13 u14 u15 u16 u17 u18 u19 u20 u21 u22 u23 u24 u25 : Value), k ≤ n ∧ m = n - k ∧ a' = { tmps := #[.slice a n cap, .int .i64 (ov + 1), undef, .pointer (some ⟨Lx, 0, none⟩), .slice none 0 0, .pointer (some ⟨Bx, 0, none⟩), u6, u7, u8, .slice a n cap, .int .i64 n, .int .i64 k, u12, u13, u14, u15, u16, u17, u18, u19, u20, u21, u22, u23, u24, u25], defers := Ds.map mark } ∧ Marks w.heap.size Ds w' ∧ Below w.heap.size w w' ∧ w'.cell? ⟨Bx, 0, none⟩ = some (.slice none 0 0) ∧ w'.frozen? ⟨Bx, 0, none⟩ = false ∧ Hid (M.overL (M.ent R) n ov = M.pick gg (n - k) k)) n ⟨0, [], _, _, _, _, _, _, _, _, _, _, _, _, _, _, _, _, _, Nat.zero_le _, rfl, rfl, Marks.nil _ _, hbb, hcb, hfb, hov⟩ ?_
  clear hcb hfb hbb hov
  intro m a' w' hI J K hJ hK
  obtain ⟨k, Ds, u6, u7, u8, u12, u13, u14, u15, u16, u17, u18, u19, u20, u21, u22, u23, u24, u25, hk, rfl, rfl, hMk, hBl, hcb, hfb, HP⟩ := hI
  by_cases hlt : k < n
  · have hki : (k : Int) < (n : Int) := by omega
    have HJ := Lib.hid hJ
    have HK := Lib.hid hK
    have HMk := Lib.hid hMk
    have HBl := Lib.hid hBl
    clear hJ hK hMk hBl
    go_wp2_with (go_at_call 160; refine (cyclesFrom_ _ _ _ ⟨_, _, _, rfl⟩).mono ?_; rintro e2 w2 ⟨rfl, rfl⟩)
    obtain ⟨Ba, hBa⟩ : ∃ Ba, Ba = w'.heap.size := ⟨_, rfl⟩
    have hlt1 : Bx < w'.heap.size := cell_lt hcb
    obtain ⟨w2, hw2⟩ : ∃ w2, w2 = ((w'.alloc (.cells #[.slice a n cap] 24)).alloc (.cells #[.int .i64 k] 2)) := ⟨_, rfl⟩
    have hbw : Below w'.heap.size w' w2 := by rw [hw2]; exact ((Below.refl _ _).alloc (Nat.le_refl _) _).alloc (by simp) _
    have hsz2 : w2.heap.size = Ba + 2 := by rw [hw2, hBa]; simp
    have hca : w2.cell? ⟨Ba, 0, none⟩ = some (.slice a n cap) := by
      rw [hw2, hBa, World.cell?_alloc_old _ _ _ (by simp)]; simp
    have hcf : w2.cell? ⟨Ba + 1, 0, none⟩ = some (.int .i64 k) := by
      have h := World.alloc_heap_new (w'.alloc (.cells #[.slice a n cap] 24)) (.cells #[.int .i64 k] 2)
      rw [World.size_alloc] at h
      rw [hw2, hBa]
      simp only [World.cell?, h]
      rfl
    rw [← hw2, ← hBa]
    have hcb2 := (hbw.cell (p := ⟨Bx, 0, none⟩) hlt1).trans hcb
    have hfb2 := (hbw.frozen (p := ⟨Bx, 0, none⟩) hlt1).trans hfb
    have HM2 : Hid (Marks w.heap.size Ds w2) := HMk.out.keep (Bx := Bx) hcb (Nat.le_refl _) (fun q hq _ => hbw.block q hq)
    have HB2 : Hid (Below w.heap.size w w2) := HBl.out.trans (hbw.mono HBl.out.size)
    have HQ2 : Hid (Sq w2 a n R) := HQ.out.below HB2.out
    have hltB : Bx < w2.heap.size := by rw [hsz2, hBa]; omega
    have hz2 : w.heap.size ≤ w2.heap.size := HB2.out.size
    have hBa2 : Ba + 1 < w2.heap.size := by omega
    clear hw2 hbw hcb hfb hBa hlt1 hsz2
    refine (wpIn_wide (n := 3)).1 ?_
    refine rangeState (gf := 192) (lb := #[.pointer (some ⟨Ba, 0, none⟩), .pointer (some ⟨Ba + 1, 0, none⟩)]) rfl (enters_of Tryz.func192 (by kernel_rfl) rfl) (PreC ov (w2.heap.size + 2) (gg k)) ?hps (GoC ov)
      (fun id _ W A => id = 0 ∧ (∃ g L c, A.cell? ⟨Bx, 0, none⟩ = some (.slice (some ⟨g, 0, none⟩) L c) ∧ Own A W.heap.size (.slice (some ⟨g, 0, none⟩) L c) (gg k) ∧ (gg k).length ≠ 0) ∧ Below w.heap.size w A ∧ (w2.heap.size ≤ A.heap.size ∧ w2.heap.size + 2 ≤ W.heap.size) ∧ ∀ q, q < w2.heap.size → q ≠ Bx → A.heap[q]? = w2.heap[q]?)
      ((gg k).length = 0) ?hMove ?hiter (fun x => match x.toList with | [p, q] => { tmps := #[.slice a n cap, .int .i64 (ov + 1), undef, .pointer (some ⟨Lx, 0, none⟩), .slice none 0 0, .pointer (some ⟨Bx, 0, none⟩), .int .i64 k, p, q, .slice a n cap, .int .i64 n, .int .i64 k, .bool true, .int .i64 k, .slice a n cap, .int .i64 k, .func (.func 192) #[] #[.pointer (some ⟨Ba, 0, none⟩), .pointer (some ⟨Ba + 1, 0, none⟩)], p, q, u19, u20, u21, u22, u23, u24, u25], defers := [] } | _ => { tmps := #[], defers := [] }) ?hassign ?hbody ?hdone ?hstop
    case hps => rintro x W ⟨b, L, c, p, wt, rfl, -⟩; rfl
    case hMove =>
      rintro id x W A B q ⟨rfl, ⟨g, L, c, h1, h2, h3⟩, h4, ⟨h6, h7⟩, h5⟩ hch hq
      have hg : W.heap.size ≤ g ∧ g < A.heap.size := own_lt h2 rfl
      refine ⟨rfl, ⟨g, L, c, ?_, ownsRow_keep h2 (fun r hr => ?_), h3⟩, ?_, ⟨Nat.le_trans h6 hch.2.2.2.1, h7⟩, ?_⟩
      · rw [World.cell?_of_block (w := A) (w' := B) (a := ⟨Bx, 0, none⟩) (hch.2.2.2.2 Bx (cell_lt h1) (by omega))]; exact h1
      · have : g = r := by injection hr
        subst this
        exact hch.2.2.2.2 g hg.2 (by omega)
      · exact ⟨hch.1.trans h4.os, hch.2.1.trans h4.tape, hch.2.2.1.trans h4.output, Nat.le_trans h4.size hch.2.2.2.1, fun r hr => (hch.2.2.2.2 r (by have := h4.size; omega) (by omega)).trans (h4.block r hr)⟩
      · intro r hr hne'
        exact (hch.2.2.2.2 r (by omega) (by omega)).trans (h5 r hr hne')
    case hiter =>
      intro T W1 hb1 hs1 hY
      have hg : gg k = M.grow (M.ent R) n ov n [(k : Int)] 0 := by rw [HGG.out]
      rw [← hs1, hg] at hY
      rw [← hs1, hg]
      exact callsIn_wide.2 (cycles1 ov a n cap R k (w2.heap.size + 1) Ba (Ba + 1) T W1 (HQ2.out.below hb1) hlt ((hb1.cell (p := ⟨Ba, 0, none⟩) (by show Ba < _; omega)).trans hca) ((hb1.cell (p := ⟨Ba + 1, 0, none⟩) (by show Ba + 1 < _; omega)).trans hcf) hY)
    case hassign =>
      intro l x W m K' hp hK'
      obtain ⟨b, L, c, p, wt, rfl, -⟩ := hp
      gi_wp2
      exact hK'
    case hbody =>
      intro x W o m hp hbl hsz
      obtain ⟨b, L, c, p, wt, rfl, ho, hL1, hL2, hres⟩ := hp
      have hcb3 : (W.putObj (w2.heap.size + 1) o).cell? ⟨Bx, 0, none⟩ = some (.slice none 0 0) := by
        rw [World.cell?_of_block (w := W) (a := ⟨Bx, 0, none⟩) (World.putObj_heap_other (by show Bx ≠ _; omega)), hbl.cell (p := ⟨Bx, 0, none⟩) hltB]; exact hcb2
      have hfb3 : (W.putObj (w2.heap.size + 1) o).frozen? ⟨Bx, 0, none⟩ = false := by
        rw [World.frozen?_of_block (w := W) (a := ⟨Bx, 0, none⟩) (World.putObj_heap_other (by show Bx ≠ _; omega)), hbl.frozen (p := ⟨Bx, 0, none⟩) hltB]; exact hfb2
      have HO3 : Hid (Own (W.putObj (w2.heap.size + 1) o) (w2.heap.size + 2) (.slice b L c) p) := ho.keep (fun q h1 _ => World.putObj_heap_other (by omega))
      have HRES := Lib.hid hres
      have HLp : Hid (L = p.length) := ho.len
      have HBL := Lib.hid hbl
      have hl3 : (W.putObj (w2.heap.size + 1) o).cell? ⟨Lx, 0, none⟩ = some (.int .i64 (ov + 1)) := by
        rw [World.cell?_of_block (w := W) (a := ⟨Lx, 0, none⟩) (World.putObj_heap_other (by show Lx ≠ _; omega)), hbl.cell (p := ⟨Lx, 0, none⟩) (by show Lx < _; omega), HB2.out.cell (p := ⟨Lx, 0, none⟩) (by show Lx < _; omega)]; exact HLC.out
      clear ho hres hbl
      change Code.wpIn _ _ _ _ _ { tmps := #[.slice a n cap, .int .i64 (ov + 1), undef, .pointer (some ⟨Lx, 0, none⟩), .slice none 0 0, .pointer (some ⟨Bx, 0, none⟩), .int .i64 k, (.slice b L c), (.int .i64 wt), .slice a n cap, .int .i64 n, .int .i64 k, .bool true, .int .i64 k, .slice a n cap, .int .i64 k, .func (.func 192) #[] #[.pointer (some ⟨Ba, 0, none⟩), .pointer (some ⟨Ba + 1, 0, none⟩)], (.slice b L c), (.int .i64 wt), u19, u20, u21, u22, u23, u24, u25], defers := [] } _
      by_cases hw : ov < wt
      · have hwg : ov + 1 ≤ wt := by omega
        have hwz : W.heap.size = (W.putObj (w2.heap.size + 1) o).heap.size := by simp
        have hBW : Bx < W.heap.size := by omega
        have hp0 : 0 < p.length := by have := HLp.out; omega
        gi_wp2_with (refine ⟨trivial, fun h => by simp [Fence.wide] at h, ?_⟩; gi_at_call 161; refine (CallsIn.inRound _ (callsIn_wide.2 (clone _ _ _ p _ HO3.out.ints' (by omega) (by omega)))).mono ?_; rintro e3 w3 ⟨b3, c3, rfl, ho3, hb3⟩; obtain ⟨g3, rfl, hg3⟩ := own_head ho3 hp0; have hc3 := (hb3.cell (p := ⟨Bx, 0, none⟩) (by rw [← hwz]; exact hBW)).trans hcb3; have hf3 := (hb3.frozen (p := ⟨Bx, 0, none⟩) (by rw [← hwz]; exact hBW)).trans hfb3; have HO4 := Lib.hid ho3; have HB3 := Lib.hid hb3; clear ho3 hb3)
        have hs3 := HB3.out.size
        have hpk := HRES.out hw
        have hgk := own_lt HO4.out rfl
        rw [← hwz] at hg3 hs3
        have hset : ∀ q, q ≠ Bx → (w3.setCell ⟨Bx, 0, none⟩ (.slice (some ⟨g3, 0, none⟩) L c3)).heap[q]? = w3.heap[q]? := fun q hq => Below.heap_setCell w3 ⟨Bx, 0, none⟩ _ q hq
        have hszs : (w3.setCell ⟨Bx, 0, none⟩ (.slice (some ⟨g3, 0, none⟩) L c3)).heap.size = w3.heap.size := by simp
        have hq3 : ∀ q, q < W.heap.size → w3.heap[q]? = (W.putObj (w2.heap.size + 1) o).heap[q]? := fun q hq => HB3.out.block q (by rw [← hwz]; exact hq)
        refine ⟨(hset _ (by omega)).trans (hq3 _ (by omega)), (hset _ (by omega)).trans (hq3 _ (by omega)), by rw [hszs, ← hwz]; exact hs3, fun q hq1 hq2 => (hset _ (by omega)).trans (hq3 _ hq2), rfl, ⟨g3, L, c3, World.cell?_setCell_same' _ _ _ (by rw [hc3]; rfl), ?_, ?_⟩, ?_, ⟨by rw [hszs]; omega, hsz⟩, fun q hq1 hq2 => ?_⟩
        · rw [← hpk]
          have := HO4.out
          rw [← hwz] at this
          exact ownsRow_keep this (fun r hr => by
            have hgr : g3 = r := by injection hr
            subst hgr
            exact hset _ (by omega))
        · rw [← hpk, ← HLp.out]; omega
        · have hbW : Below w.heap.size w W := HB2.out.trans (HBL.out.mono hz2)
          refine ⟨HB3.out.os.trans hbW.os, HB3.out.tape.trans hbW.tape, HB3.out.output.trans hbW.output, by rw [hszs]; have := hbW.size; omega, fun q hq => ?_⟩
          have := hbW.size
          rw [hset _ (by omega), hq3 _ (by omega), World.putObj_heap_other (by omega)]
          exact hbW.block q hq
        · rw [hset _ hq2, hq3 _ (by omega), World.putObj_heap_other (by omega)]
          exact HBL.out.block q hq1
      · have hw' : wt ≤ ov := by omega
        have hwl : ¬ (ov + 1 ≤ wt) := by omega
        gi_wp2
        exact ⟨Below.refl _ _, _, _, rfl, hw'⟩
    case hdone =>
      intro W hF hb hsz hD
      have HPn : Hid (M.overL (M.ent R) n ov = M.pick gg (n - (k + 1)) (k + 1)) := HP.out.trans (M.pick_no hlt hF)
      have HMn : Hid (Marks w.heap.size (w2.heap.size :: Ds) W) := Marks.cons HM2.out (HM2.out.keep (Bx := Bx) hcb2 (Nat.le_refl _) (fun q hq _ => hb.block q hq)) (Nat.le_refl _) hz2 hD
      have HBn : Hid (Below w.heap.size w W) := HB2.out.trans (hb.mono hz2)
      have hcn := (hb.cell (p := ⟨Bx, 0, none⟩) hltB).trans hcb2
      have hfn := (hb.frozen (p := ⟨Bx, 0, none⟩) hltB).trans hfb2
      clear hF hb hD hca hcf hcb2 hfb2
      go_wp2
      exact HK.out _ _ (Handed.intro (n - (k + 1)) (by omega) (HJ.out _ _ _ ⟨k + 1, w2.heap.size :: Ds, .int .i64 k, u7, u8, .bool true, .int .i64 k, .slice a n cap, .int .i64 k, _, u17, u18, u19, u20, u21, u22, u23, .int .i64 ((k : Int) + 1), u25, by omega, rfl, rfl, HMn.out, HBn.out, hcn, hfn, HPn.out⟩))
    case hstop =>
      intro id x W2 W hp hb hst hD
      obtain ⟨rfl, ⟨g, L, c, h1, h2, h3⟩, h4, ⟨h6, h7⟩, h5⟩ := hst
      have HEq : Hid (M.overL (M.ent R) n ov = gg k) := HP.out.trans (M.pick_yes hlt h3)
      have HMn : Hid (Marks w.heap.size (w2.heap.size :: Ds) W) := Marks.cons HM2.out (HM2.out.keep (Bx := Bx) hcb2 (Nat.le_refl _) h5) (Nat.le_refl _) hz2 hD
      have HOn : Hid (Own W w.heap.size (.slice (some ⟨g, 0, none⟩) L c) (gg k)) := h2.mono (by omega)
      have HB4 := Lib.hid h4
      clear h2 h3 h4 h5 h6 h7 hb hp hD hca hcf hcb2 hfb2
      refine wpIn_wide.2 ?_
      go_wp2
      rw [Exit.noGoto_ret]
      exact leaves_marks (lo := w.heap.size) (fun W' => Own W' w.heap.size (.slice (some ⟨g, 0, none⟩) L c) (gg k) ∧ Below w.heap.size w W')
        (fun A D o hA hlo' hD' => ⟨ownsRow_keep hA.1 (fun r hr => World.putObj_heap_other (by
          have hgr : g = r := by injection hr
          subst hgr
          rintro rfl
          obtain ⟨-, ⟨hv, -⟩ | ⟨g', cap', cur, hv, -, hg', -⟩⟩ := hA.1
          · cases hv
          · injection hv with e1 e2 e3
            injection e1 with e1
            injection e1 with e1
            subst e1
            rw [hD'] at hg'
            cases hg')), ⟨hA.2.os, hA.2.tape, hA.2.output, by have := hA.2.size; simpa using this, fun r hr => (World.putObj_heap_other (by omega)).trans (hA.2.block r hr)⟩⟩)
        (fun A hA => ⟨_, results_tmp rfl _ _ _, ⟨some ⟨g, 0, none⟩, L, c, rfl, by rw [HEq.out]; exact hA.1.mono HW0.out.size, HW0.out.trans (hA.2.mono HW0.out.size)⟩⟩) (w2.heap.size :: Ds) W HMn.out ⟨HOn.out, HB4.out⟩
  · obtain rfl : k = n := by omega
    have HEq : Hid (M.overL (M.ent R) k ov = []) := HP.out.trans M.pick_end
    have HBl := Lib.hid hBl
    have HMk := Lib.hid hMk
    clear hBl hMk hfb
    go_wp2
    rw [Exit.noGoto_ret]
    exact leaves_marks (lo := w.heap.size) (fun W' => Below w.heap.size w W')
      (fun A D o hA hlo' hD' => ⟨hA.os, hA.tape, hA.output, by have := hA.size; simpa using this, fun r hr => (World.putObj_heap_other (by omega)).trans (hA.block r hr)⟩)
      (fun A hA => ⟨_, results_tmp rfl _ _ _, ⟨none, 0, 0, rfl, by rw [HEq.out]; exact own_nil _ _, HW0.out.trans (hA.mono HW0.out.size)⟩⟩) Ds w' HMk.out HBl.out

end Go.Proofs.YtihpbgjiohnekabGreat.V
namespace Go.Proofs.YtihpbgjiohnekabGreat.M
theorem pick_len {g : Nat → List Int} {m : Nat} (h : ∀ v, (g v).length ≤ m) : ∀ c k, (pick g c k).length ≤ m := by
  intro c
  induction c with
  | zero => intro k; exact Nat.zero_le _
  | succ c ih =>
    intro k
    show (if _ then _ else _ : List Int).length ≤ m
    split
    · exact ih _
    · exact h k
theorem posRes_len (R : List (List Int)) : (posRes R).1.length ≤ 11 := by
  unfold posRes
  split
  · next h =>
    obtain ⟨m1, m2, -⟩ := isMat_t (sqB_t h).1
    split
    · simp
    · have := pick_len (g := fun v => grow (ent R) R.length 0 R.length [(v : Int)] 0) (m := 11) (fun v => by
        have := grow_nodes (ent R) R.length 0 R.length [(v : Int)] 0
        simp at this; omega) R.length 0
      exact this
  · simp
end Go.Proofs.YtihpbgjiohnekabGreat.M

namespace Go.Proofs.YtihpbgjiohnekabGreat
namespace V
open Go.RowKit
theorem fld1b (w : World) (f g : Fn) : (Instr.field 146 (.agg #[.func f #[] #[], .func g #[] #[]]) 1).run Tryz.prog w = .ok (.func g #[] #[]) w := by
  simp [Instr.field, part, asAgg, go_sem]
theorem M.star_shift {R : List (List Int)} {n : Nat} {a b : Int} (hp : M.noPos (M.shf (M.ent R) a b) n = true) : M.starL (M.mk n n (M.shf (M.ent R) a b)) n = (M.mk n n (M.starF (M.shf (M.ent R) a b) n), true) := by
  unfold M.starL
  rw [M.noPos_congr (A' := M.shf (M.ent R) a b) fun i j hi hj => M.ent_mk _ _ _ _ _ hi hj, hp, if_pos rfl]
  unfold M.starM
  rw [M.mk_congr fun i hi j hj => M.starF_congr (A' := M.shf (M.ent R) a b) (fun i j hi hj => M.ent_mk _ _ _ _ _ hi hj) hi hj]
set_option maxRecDepth 100000 in
set_option maxHeartbeats 4000000 in
theorem bestArcs (a : Option Addr) (n cap : Nat) (R : List (List Int)) (num den : Int) (w0 : World) (h : Mat w0 a n R) (hr : Rect R n n) (n1 : 1 ≤ n) (n2 : n ≤ 10) (hs : ∀ i j, i < n → j < n → M.Sm 1000000 (M.ent R i j)) (hab : M.Near num den) (hp : M.noPos (M.shf (M.ent R) num den) n = true) :
    Calls Tryz.prog 91 #[.slice a n cap, .agg #[.int .i64 num, .int .i64 den]] w0 (MPost n (M.mk n n (M.bestF (M.shf (M.ent R) num den) n)) w0) := by
  obtain ⟨w, hwd⟩ : ∃ w, w = w0.alloc (rbox num den) := ⟨_, rfl⟩
  have HX : Hid (Boxed w0 w num den) := by show Boxed _ _ _ _; rw [hwd]; exact boxed _ _ _
  have HA : Hid (Mat w a n R) := h.below HX.out.below
  have HR := Lib.hid hr
  have HS := Lib.hid hs
  have HN := Lib.hid hab
  have HSt := Lib.hid (M.star_shift hp)
  have hS := M.sh_sm hs hab
  have HSh := Lib.hid hS
  have HSb : Hid (∀ i j, i < n → j < n → M.Big (M.shf (M.ent R) num den i j)) := fun i j hi hj => M.big_sm (HSh.out i j hi hj) (by omega)
  have HTb : Hid (∀ i j, i < n → j < n → M.Big (M.starF (M.shf (M.ent R) num den) n i j)) := fun i j hi hj => M.big_sm (M.star_sm n2 HSh.out hp hi hj) (by omega)
  obtain ⟨p0, p1⟩ := HX.out.cells (Below.refl _ _)
  have hz := HX.out.size
  have hfld := fld1b
  clear h hr hs hab hp hS
  go_enter Tryz.func91, Tryz.ntmps91
  go_wp2_with fail
  simp only [← hwd] at *
  clear hwd
  refine (shiftedBy _ _ _ R num den _ HA.out HR.out n1 n2 HS.out HN.out).mono ?_
  rintro e w2 ⟨a2, cap2, rfl, hO, hb⟩
  generalize M.shf (M.ent R) num den = S at *
  have HO2 : Hid (OwnM w2 w.heap.size (.slice a2 n cap2) (M.mk n n (M.midG (M.bestF S n) S 0 0))) := by show OwnM _ _ _ _; rw [M.midG_zero]; exact hO
  obtain ⟨g, -, -, -, -, hgg, -⟩ := hO.tri (rect_mk _ _ _) 0 0 0 (by omega) (by omega) (by omega)
  have HSq : Hid (Sq w2 a2 n (M.mk n n S)) := ⟨hO.mat, rect_mk _ _ _, fun i j hi hj => by rw [M.ent_mk _ _ _ _ _ hi hj]; exact HSh.out i j hi hj, n1, n2⟩
  subst hgg
  have HB2 := Lib.hid hb
  clear hO hb p0 p1
  go_wp2_with fail
  refine (starOf _ _ _ (M.mk n n S) _ HSq.out).mono ?_
  rintro e w3 ⟨a3, m3, c3, rfl, hO, hb⟩
  rw [HSt.out] at hO
  have hm3 : m3 = n := by have := hO.len; simpa using this
  subst hm3
  have HO3 := Lib.hid hO
  have HB3 := Lib.hid hb
  rw [HSt.out]
  clear hO hb
  go_wp2_with fail
  refine (maxPlus _).mono ?_
  rintro e w4 ⟨rfl, hb⟩
  have HO4 := Lib.hid (HO3.out.below hb)
  have HB4 := Lib.hid (HB3.out.trans (hb.mono HB3.out.size))
  have HO24 := Lib.hid (HO2.out.below HB4.out)
  clear hb HO3 HB3
  go_wp2
  clear hfld
  have hz2 := HB2.out.size
  have hz4 := HB4.out.size
  go_loopw [9, 10, 25] (fun _ _ i wr => ∃ s : Nat, s ≤ m3 ∧ i = .int .i64 s ∧ Hid (OwnM wr w.heap.size (.slice (some ⟨g, 0, none⟩) m3 cap2) (M.mk m3 m3 (M.midG (M.bestF S m3) S s 0))) ∧ Hid (Below w.heap.size w wr) ∧ Hid (Same w2.heap.size w4.heap.size w4 wr) ∧ Hid (wr.heap[g]? = w2.heap[g]?)) (fun _ _ i _ => m3 - (intOf i).toNat)
  case atStart =>
    refine ⟨0, Nat.zero_le _, rfl, HO24, HB2.out.trans (HB4.out.mono hz2), Same.refl _ _ _, ?_⟩
    obtain ⟨g3, q3, c3', -, -, hgg, -, hrow3, -⟩ := HO2.out.tri (rect_mk _ _ _) 0 0 0 (by omega) (by omega) (by omega)
    injection hgg with hgg
    injection hgg with hgg
    subst hgg
    exact HB4.out.block g (cell_lt hrow3)
  case round =>
    obtain ⟨s, hs, rfl, HO, HB, HSm, HG⟩ := hrel
    obtain ⟨wp, rfl⟩ : ∃ x, x = wr := ⟨_, rfl⟩
    clear HO24
    by_cases hsl : s < m3
    · have hsi : (s : Int) < (m3 : Int) := by omega
      obtain ⟨g2, q, c, q2, c2, hgg, hq, hrow, hx0, -, -, -, -, -⟩ := HO.out.tri (rect_mk _ _ _) s s s hsl hsl hsl
      injection hgg with hgg
      injection hgg with hgg
      subst hgg
      have hq2 : q < w2.heap.size := by
        have e : w2.cell? ⟨g, s, none⟩ = some (.slice (some ⟨q, 0, none⟩) m3 c) := (World.cell?_of_block (w := wp) (a := ⟨g, s, none⟩) HG.out.symm).trans hrow
        obtain ⟨g3, q3, c3', -, -, hgg, -, hrow3, hx3, -⟩ := HO2.out.tri (rect_mk _ _ _) s 0 0 hsl (by omega) (by omega)
        injection hgg with hgg
        injection hgg with hgg
        subst hgg
        rw [e] at hrow3
        injection hrow3 with h1
        injection h1 with h1
        injection h1 with h1
        injection h1 with h1
        subst h1
        exact cell_lt hx3
      have hqg : q ≠ g := row_ne hx0 hrow
      have HRow := Lib.hid hrow
      have HQ2 := Lib.hid hq2
      clear hx0 hq2
      go_wp2
      clear hrow
      go_loopw [11, 12, 32] (fun _ _ j wr => ∃ t : Nat, t ≤ m3 ∧ j = .int .i64 t ∧ Hid (wr.cell? ⟨g, s, none⟩ = some (.slice (some ⟨q, 0, none⟩) m3 c)) ∧ Hid (OwnM wr w.heap.size (.slice (some ⟨g, 0, none⟩) m3 cap2) (M.mk m3 m3 (M.midG (M.bestF S m3) S s t))) ∧ Hid (Below w.heap.size w wr) ∧ Hid (Same w2.heap.size w4.heap.size w4 wr) ∧ Hid (wr.heap[g]? = w2.heap[g]?)) (fun _ _ j _ => m3 - (intOf j).toNat)
      case atStart => exact ⟨0, Nat.zero_le _, rfl, HRow, HO, HB, HSm, HG⟩
      case round =>
        clear HO HB HSm HG
        obtain ⟨t, ht, rfl, HRt, HO, HB, HSm, HG⟩ := hrel
        by_cases htl : t < m3
        · have hti : (t : Int) < (m3 : Int) := by omega
          obtain ⟨g2, q2, c2, -, -, hgg, -, h1, h2, -, -, -, h6, ho⟩ := HO.out.tri (rect_mk _ _ _) s t t hsl htl htl
          injection hgg with hgg
          injection hgg with hgg
          subst hgg
          rw [HRt.out] at h1
          injection h1 with h1
          injection h1 with h1 _ h1c
          injection h1 with h1
          injection h1 with h1
          subst h1
          clear h1c
          rw [M.ent_mk _ _ _ _ _ hsl htl, M.midG_at] at h2
          have HO3w : Hid (OwnM wr w2.heap.size (.slice a3 m3 c3) (M.mk m3 m3 (M.starF S m3))) := HO4.out.keep fun k k1 k2 => HSm.out k k1 k2
          obtain ⟨g5, q5, c5, -, -, rfl, -, hs1, hs2, -⟩ := HO3w.out.tri (rect_mk _ _ _) t s s htl hsl hsl
          rw [M.ent_mk _ _ _ _ _ htl hsl] at hs2
          obtain ⟨x, hx⟩ : ∃ x, x = S s t := ⟨_, rfl⟩
          obtain ⟨z, hz⟩ : ∃ z, z = M.starF S m3 t s := ⟨_, rfl⟩
          obtain ⟨u, hu⟩ : ∃ u, u = M.times x z := ⟨_, rfl⟩
          rw [← hx] at h2
          rw [← hz] at hs2
          have HC1 : ∀ w : World, Calls Tryz.prog 196 #[.int .i64 x, .int .i64 z] w fun e w' => e = .returned (.int .i64 u) ∧ w = w' := by
            intro w
            rw [hu]
            exact clTimes _ _ _ (by rw [hx]; exact HSb.out s t hsl htl) (by rw [hz]; exact HTb.out t s htl hsl)
          have HC1' := Lib.hid HC1
          clear HC1
          have hcr := HRt.out
          by_cases hu0 : u = 0
          · have e : M.bestF S m3 s t = S s t := by unfold M.bestF; rw [← hx, ← hz, ← hu, if_pos hu0]
            have HO5 : Hid (OwnM wr w.heap.size (.slice (some ⟨g, 0, none⟩) m3 cap2) (M.mk m3 m3 (M.midG (M.bestF S m3) S s (t + 1)))) := by
              show OwnM _ _ _ _; rw [← M.midG_same _ _ _ _ _ e]; exact HO.out
            have hub : (u != 0) = false := by simp [hu0]
            clear e ho hx hz hu hu0
            go_wp2_with (go_at_call 196; refine (HC1'.out _).mono ?_; rintro e w' ⟨rfl, rfl⟩)
            go_wp2
            go_roundw
            case rel => exact ⟨t + 1, by omega, by go_num, HRt, HO5, HB, HSm, HG⟩
            case measure => simp [intOf]; omega
          · have e : M.bestF S m3 s t = -1000000000000000 := by unfold M.bestF; rw [← hx, ← hz, ← hu, if_neg hu0]
            have hN := ho (-1000000000000000)
            rw [← e, M.midG_next _ _ _ _ _ hsl, e] at hN
            have HN5 := Lib.hid hN
            have hub : (u != 0) = true := by simp [hu0]
            have HRn : Hid ((wr.setCell ⟨q, t, none⟩ (.int .i64 (-1000000000000000))).cell? ⟨g, s, none⟩ = some (.slice (some ⟨q, 0, none⟩) m3 c)) :=
              (World.cell?_of_block (w := wr) (a := ⟨g, s, none⟩) (Below.heap_setCell wr ⟨q, t, none⟩ _ g (Ne.symm hqg))).trans HRt.out
            have HSn : Hid (Same w2.heap.size w4.heap.size w4 (wr.setCell ⟨q, t, none⟩ (.int .i64 (-1000000000000000)))) := fun k k1 k2 =>
              (Below.heap_setCell wr ⟨q, t, none⟩ _ k (by have := HQ2.out; show k ≠ q; omega)).trans (HSm.out k k1 k2)
            have HGn : Hid ((wr.setCell ⟨q, t, none⟩ (.int .i64 (-1000000000000000))).heap[g]? = w2.heap[g]?) := (Below.heap_setCell wr ⟨q, t, none⟩ _ g (Ne.symm hqg)).trans HG.out
            clear e ho hN hx hz hu hu0
            go_wp2_with (go_at_call 196; refine (HC1'.out _).mono ?_; rintro e w' ⟨rfl, rfl⟩)
            go_wp2
            go_roundw
            case rel => exact ⟨t + 1, by omega, by go_num, HRn, HN5, HB.out.setCell hq _, HSn, HGn⟩
            case measure => simp [intOf]; omega
        · obtain rfl : t = m3 := by omega
          have HO5 : Hid (OwnM wr w.heap.size (.slice (some ⟨g, 0, none⟩) t cap2) (M.mk t t (M.midG (M.bestF S t) S (s + 1) 0))) := by
            show OwnM _ _ _ _; rw [← M.midG_row_end]; exact HO.out
          go_wp2
          go_roundw
          case rel => exact ⟨s + 1, by omega, by go_num, HO5, HB, HSm, HG⟩
          case measure => simp [intOf]; omega
    · obtain rfl : s = m3 := by omega
      have HO5 : Hid (OwnM wp w.heap.size (.slice (some ⟨g, 0, none⟩) s cap2) (M.mk s s (M.bestF S s))) := by
        show OwnM _ _ _ _; rw [← M.midG_end]; exact HO.out
      go_wp2
      go_ret
      exact ⟨_, _, rfl, HO5.out.mono HX.out.below.size, HX.out.trans (HB.out.mono (by omega))⟩
end V
end Go.Proofs.YtihpbgjiohnekabGreat

namespace Go.Proofs.YtihpbgjiohnekabGreat
namespace V
open Go.RowKit
theorem smallestCycle0 (a : Option Addr) (n cap : Nat) (R : List (List Int)) (w0 : World) (hq : Sq w0 a n R) :
    Calls Tryz.prog 90 #[.slice a n cap, .int .i64 0] w0 fun e w' => ∃ b n' c', e = .returned (.slice b n' c') ∧ Own w' w0.heap.size (.slice b n' c') (M.overL (M.ent R) n (-1)) ∧ Below w0.heap.size w0 w' := by
  have h := smallestCycle a n cap R (-1) w0 hq
  rw [show (-1 : Int) + 1 = 0 from by decide] at h
  exact h
set_option maxRecDepth 100000 in
set_option maxHeartbeats 2000000 in
theorem bestCycle (a : Option Addr) (n cap : Nat) (R : List (List Int)) (w : World) (h : Mat w a n R) :
    Calls Tryz.prog 29 #[.slice a n cap] w (VRes (M.bestRes R) w) := by
  have HA := Lib.hid h
  have HRn := Lib.hid h.1
  by_cases hs : M.sqB R = true
  · have HS := Lib.hid hs
    obtain ⟨hr, n1, n2, hsm⟩ := sq_parts h hs
    have HR := Lib.hid hr
    have HSm := Lib.hid hsm
    have HQ := Lib.hid (sq_of h hs)
    by_cases hc : M.hasCyc (M.ent R) n = true
    · have HNo := Lib.hid hc
      obtain ⟨hbest, hnear, -⟩ := M.bestR_best n2 hsm hc
      have HNear := Lib.hid hnear
      have hp : M.noPos (M.shf (M.ent R) (M.bestR (M.ent R) n).1 (M.bestR (M.ent R) n).2) n = true :=
        M.noPos_of_walk n2 hsm hnear fun v s w _ _ h3 h4 _ h6 => hbest.2.2.1 v s w h3 h4 h6
      have hE : M.bestRes R = (M.overL (M.bestF (M.shf (M.ent R) (M.bestR (M.ent R) n).1 (M.bestR (M.ent R) n).2) n) n (-1), 0) := by
        unfold M.bestRes M.bestCyc
        rw [if_pos hs, HRn.out, if_pos hc, M.best_over n2 (M.sh_sm hsm hnear) hp]
      obtain ⟨r, hrr⟩ : ∃ r, r = M.bestR (M.ent R) n := ⟨_, rfl⟩
      rw [← hrr] at hp hE HNear
      have HP := Lib.hid hp
      have HE := Lib.hid hE
      have HRr := Lib.hid hrr
      obtain ⟨r1, r2⟩ := r
      have HBm : Hid (∀ i j, i < n → j < n → M.Sm 1000001000000 (M.bestF (M.shf (M.ent R) r1 r2) n i j)) := fun i j hi hj => by
        unfold M.bestF
        split
        · exact M.sh_sm HSm.out HNear.out i j hi hj
        · exact .inl rfl
      clear h hs hr hsm hc hbest hnear hp hE hrr
      go_enter Tryz.func29, Tryz.ntmps29
      go_wp2_with fail
      refine (isSquare_b _ _ _ R _ true HS.out HA.out).mono ?_
      rintro e w' ⟨rfl, rfl⟩
      go_wp2_with fail
      refine (hasCycle _ _ _ R _ HQ.out HSm.out).mono ?_
      rintro e w1 ⟨rfl, hb⟩
      rw [HNo.out]
      have HB1 := Lib.hid hb
      clear hb
      go_wp2_with fail
      refine (powerMean _ _ _ R _ (HQ.out.below HB1.out) HSm.out HNo.out).mono ?_
      rintro e w2 ⟨rfl, hb⟩
      rw [← HRr.out]
      have HB2 := Lib.hid (HB1.out.trans (hb.mono HB1.out.size))
      clear hb
      obtain ⟨wb, hwb⟩ : ∃ x, x = w2.alloc (rbox r1 r2) := ⟨_, rfl⟩
      have HX : Hid (Boxed w2 wb r1 r2) := by show Boxed _ _ _ _; rw [hwb]; exact boxed _ _ _
      have HBx := Lib.hid (HB2.out.trans (HX.out.below.mono HB2.out.size))
      go_wp2_with fail
      change Calls _ _ _ (w2.alloc (rbox r1 r2)) _
      rw [← hwb]
      clear hwb
      refine (bestArcs _ _ _ R r1 r2 _ (HA.out.below HBx.out) HR.out n1 n2 HSm.out HNear.out HP.out).mono ?_
      rintro e w3 ⟨b3, c3, rfl, ho, hb⟩
      have HO3 := Lib.hid ho
      have HB3 := Lib.hid (HBx.out.trans (hb.mono HBx.out.size))
      have HSq3 : Hid (Sq w3 b3 n (M.mk n n (M.bestF (M.shf (M.ent R) r1 r2) n))) := ⟨ho.mat, rect_mk _ _ _, fun i j hi hj => by rw [M.ent_mk _ _ _ _ _ hi hj]; exact HBm.out i j hi hj, n1, n2⟩
      clear ho hb
      go_wp2_with fail
      refine (smallestCycle0 _ _ _ (M.mk n n (M.bestF (M.shf (M.ent R) r1 r2) n)) _ HSq3.out).mono ?_
      rintro e w4 ⟨b4, n4, c4, rfl, ho, hb⟩
      rw [M.over_congr (A := M.bestF (M.shf (M.ent R) r1 r2) n) n2 HBm.out fun i j hi hj => M.ent_mk _ _ _ _ _ hi hj] at ho
      have HO4 := Lib.hid (ho.mono HB3.out.size)
      have HB4 := Lib.hid (HB3.out.trans (hb.mono HB3.out.size))
      clear ho hb
      go_wp2
      go_ret2
      rw [HE.out]
      exact ⟨_, _, _, rfl, HO4.out, HB4.out⟩
    · simp only [Bool.not_eq_true] at hc
      have HNo := Lib.hid hc
      have HE : Hid (M.bestRes R = ([], 4)) := by show _ = _; unfold M.bestRes; rw [if_pos hs, HRn.out, if_neg (by rw [hc]; exact Bool.false_ne_true)]
      clear h hs hr hsm hc
      go_enter Tryz.func29, Tryz.ntmps29
      go_wp2_with fail
      refine (isSquare_b _ _ _ R _ true HS.out HA.out).mono ?_
      rintro e w' ⟨rfl, rfl⟩
      go_wp2_with fail
      refine (hasCycle _ _ _ R _ HQ.out HSm.out).mono ?_
      rintro e w1 ⟨rfl, hb⟩
      rw [HNo.out]
      have HB1 := Lib.hid hb
      clear hb
      go_wp2
      go_ret2
      exact VRes.nil HE.out HB1.out
  · simp only [Bool.not_eq_true] at hs
    have HS := Lib.hid hs
    have HE : Hid (M.bestRes R = ([], 1)) := by show _ = _; unfold M.bestRes; rw [if_neg (by rw [hs]; exact Bool.false_ne_true)]
    clear h hs
    go_enter Tryz.func29, Tryz.ntmps29
    go_wp2_with fail
    refine (isSquare_b _ _ _ R _ false HS.out HA.out).mono ?_
    rintro e w' ⟨rfl, rfl⟩
    go_wp2
    go_ret2
    exact VRes.nil HE.out (Below.refl _ _)
end V
end Go.Proofs.YtihpbgjiohnekabGreat

namespace Go.Proofs.YtihpbgjiohnekabGreat
namespace M
def stcM (S : Nat → Nat → Int) (n : Nat) : List (List Int) := mk n n fun i j => ent (mk n n (starF S n)) j i
end M
namespace V
set_option maxRecDepth 100000
open Go.RowKit
set_option maxRecDepth 100000 in
set_option maxHeartbeats 2000000 in
theorem starColumns (a : Option Addr) (n cap : Nat) (R : List (List Int)) (num den : Int) (w0 : World) (h : Mat w0 a n R) (hr : Rect R n n) (n1 : 1 ≤ n) (n2 : n ≤ 10) (hs : ∀ i j, i < n → j < n → M.Sm 1000000 (M.ent R i j)) (hab : M.Near num den) (hp : M.noPos (M.shf (M.ent R) num den) n = true) :
    Calls Tryz.prog 121 #[.slice a n cap, .agg #[.int .i64 num, .int .i64 den]] w0 (MPost n (M.stcM (M.shf (M.ent R) num den) n) w0) := by
  obtain ⟨w, hwd⟩ : ∃ w, w = w0.alloc (rbox num den) := ⟨_, rfl⟩
  have HX : Hid (Boxed w0 w num den) := by show Boxed _ _ _ _; rw [hwd]; exact boxed _ _ _
  have HA : Hid (Mat w a n R) := h.below HX.out.below
  have HR := Lib.hid hr
  have HS := Lib.hid hs
  have HN := Lib.hid hab
  have HSt := Lib.hid (M.star_shift hp)
  have HSh := Lib.hid (M.sh_sm hs hab)
  obtain ⟨p0, p1⟩ := HX.out.cells (Below.refl _ _)
  have hz := HX.out.size
  clear h hr hs hab hp
  go_enter Tryz.func121, Tryz.ntmps121
  go_wp2_with fail
  simp only [← hwd] at *
  clear hwd
  refine (shiftedBy _ _ _ R num den _ HA.out HR.out n1 n2 HS.out HN.out).mono ?_
  rintro e w2 ⟨a2, cap2, rfl, hO, hb⟩
  generalize M.shf (M.ent R) num den = S at *
  have HSq : Hid (Sq w2 a2 n (M.mk n n S)) := ⟨hO.mat, rect_mk _ _ _, fun i j hi hj => by rw [M.ent_mk _ _ _ _ _ hi hj]; exact HSh.out i j hi hj, n1, n2⟩
  have HB2 := Lib.hid (HX.out.below.trans (hb.mono HX.out.below.size))
  clear hO hb p0 p1
  go_wp2_with fail
  refine (starOf _ _ _ (M.mk n n S) _ HSq.out).mono ?_
  rintro e w3 ⟨a3, m3, c3, rfl, hO, hb⟩
  rw [HSt.out] at hO
  have hm3 : m3 = n := by have := hO.len; simpa using this
  subst hm3
  have HO3 := Lib.hid hO
  have HB3 := Lib.hid (HB2.out.trans (hb.mono HB2.out.size))
  rw [HSt.out]
  clear hO hb
  go_wp2_with fail
  refine (transposed _ _ _ m3 (M.mk m3 m3 (M.starF S m3)) _ HO3.out.mat (rect_mk _ _ _) n1 n2 n1 n2).mono ?_
  rintro e w4 ⟨a4, c4, rfl, hO, hb⟩
  have HO4 := Lib.hid (hO.mono HB3.out.size)
  have HB4 := Lib.hid (HB3.out.trans (hb.mono HB3.out.size))
  clear hO hb
  go_wp2
  go_ret
  exact ⟨_, _, rfl, HO4.out, HB4.out⟩
end V
end Go.Proofs.YtihpbgjiohnekabGreat

namespace Go.Proofs.YtihpbgjiohnekabGreat
namespace M
/-- From a critical node on, and towards one, all is critical. -/
theorem crN_rch {R : List (List Int)} {n r c : Nat} (hn : R.length = n) (h : Rch (ent (crM R)) n r c) (hc : crN R c = true) : crN R r = true := by
  obtain ⟨s, f, h0, hs, hlt, harc⟩ := h
  cases s with
  | zero => rw [← h0, hs]; exact hc
  | succ s =>
    have h1 := harc 0 (by omega)
    have l0 := hlt 0 (by omega)
    have l1 := hlt 1 (by omega)
    subst hn
    unfold crM at h1
    rw [ent_mk _ _ _ _ _ l1 l0] at h1
    unfold crF at h1
    unfold crN
    rw [← h0]
    refine List.any_eq_true.2 ⟨f 1, List.mem_range.2 l1, ?_⟩
    cases e : crB R (f 0) (f 1) with
    | true => rfl
    | false => rw [e] at h1; exact absurd rfl h1
theorem crComps_pos {R : List (List Int)} (h1 : sqB R = true) (h2 : hasCyc (ent R) R.length = true) : 1 ≤ (crComps R).length := by
  obtain ⟨q1, q2, q3, q4⟩ := best_cyc h1 h2
  have hcr := crit_cyc h1 h2 q1
  rw [decide_eq_true q2] at hcr
  obtain ⟨-, hnod, -, -⟩ := crCycB_t q1
  have hall := List.all_eq_true.1 hcr.symm 0 (List.mem_range.2 (by omega))
  have hc := vx_lt hnod (k := 0) (by omega)
  have ht := vx_lt hnod (k := (0 + 1) % (bestCyc R).length) (Nat.mod_lt _ (by omega))
  have hcn : crN R (vx (bestCyc R) 0) = true := List.any_eq_true.2 ⟨_, List.mem_range.2 ht, hall⟩
  generalize vx (bestCyc R) 0 = c at *
  obtain ⟨r1, r2, r3⟩ := rep_t (A := ent (crM R)) hc
  have hrc := (relB_t.1 r2).2
  have hrn := crN_rch rfl hrc hcn
  have he := compL_eq r2
  have hrr : repN (ent (crM R)) R.length (repN (ent (crM R)) R.length c) = repN (ent (crM R)) R.length c := by
    show ((compL (ent (crM R)) R.length (repN (ent (crM R)) R.length c)).getD 0 0).toNat = _
    rw [← he]; rfl
  have hm : compL (ent (crM R)) R.length (repN (ent (crM R)) R.length c) ∈ crComps R := by
    refine List.mem_filter.2 ⟨mem_compsP.2 ⟨_, r1, hrr, rfl⟩, ?_⟩
    have : vx (compL (ent (crM R)) R.length (repN (ent (crM R)) R.length c)) 0 = repN (ent (crM R)) R.length c := hrr
    rw [this]
    exact hrn
  exact List.length_pos_of_mem hm
theorem comps_up (A : Nat → Nat → Int) (n m : Nat) : (compsP A n m).Pairwise (fun x y => vx x 0 < vx y 0) ∧ ∀ l, l ∈ compsP A n m → vx l 0 < m := by
  refine ⟨?_, fun l hl => ?_⟩
  · induction m with
    | zero => exact List.Pairwise.nil
    | succ m ih =>
      rw [compsP_next]
      refine List.pairwise_append.2 ⟨ih, ?_, fun x hx y hy => ?_⟩
      · split
        · exact List.pairwise_singleton ..
        · exact List.Pairwise.nil
      · obtain ⟨v, hv, hr, rfl⟩ := mem_compsP.1 hx
        split at hy
        · next h =>
          rw [List.mem_singleton.1 hy]
          have e1 : vx (compL A n v) 0 = v := hr
          have e2 : vx (compL A n m) 0 = m := h
          omega
        · exact absurd hy List.not_mem_nil
  · obtain ⟨v, hv, hr, rfl⟩ := mem_compsP.1 hl
    have e1 : vx (compL A n v) 0 = v := hr
    omega
theorem rect_stc (S : Nat → Nat → Int) (n : Nat) : (stcM S n).length = n ∧ ∀ c, c < n → ((stcM S n).getD c []).length = n := ⟨by unfold stcM; simp, fun c hc => by unfold stcM; exact mk_rowlen _ _ _ _ hc⟩
def colIds (R : List (List Int)) : List Nat := (crComps R).map fun l => vx l 0
theorem colIds_up (R : List (List Int)) : (colIds R).Pairwise (fun x y => x < y) := by
  unfold colIds
  rw [List.pairwise_map]
  exact List.Pairwise.filter _ (comps_up _ _ _).1
theorem colIds_lt {R : List (List Int)} {i : Nat} (h : i ∈ colIds R) : i < R.length := by
  obtain ⟨l, hl, rfl⟩ := List.mem_map.1 h
  exact (comps_up _ _ _).2 l (List.mem_filter.1 hl).1
/-- The columns. -/
def colsL (R : List (List Int)) : List (List Int) := (colIds R).map fun i => (stcM (crS R) R.length).getD i []
def colsRes (R : List (List Int)) : List (List Int) × Int := if crCode R = 0 then (if (colsL R).all isVec then (colsL R, 0) else ([], 3)) else ([], crCode R)
theorem cols_row {R : List (List Int)} {i : Nat} (h : i < R.length) : ((stcM (crS R) R.length).getD i []).length = R.length := by
  unfold stcM
  exact mk_rowlen _ _ _ _ h
theorem colsL_len (R : List (List Int)) : (colsL R).length = (crComps R).length := by unfold colsL colIds; simp
theorem crComps_len (R : List (List Int)) : (crComps R).length ≤ R.length := by
  unfold crComps
  have h1 := List.length_filter_le (fun l => crN R (vx l 0)) (compsL (ent (crM R)) R.length)
  have h2 := compsP_len (ent (crM R)) R.length R.length
  unfold compsL at h1 ⊢
  omega
theorem cols_at {R : List (List Int)} {k : Nat} (h : k < (colsL R).length) : ((colsL R).getD k []).length = R.length := by
  unfold colsL at h ⊢
  rw [List.getD_eq_getElem?_getD, List.getElem?_eq_getElem h, Option.getD_some, List.getElem_map]
  exact cols_row (colIds_lt (List.getElem_mem _))
theorem cols_mat {R : List (List Int)} (h1 : sqB R = true) (h2 : hasCyc (ent R) R.length = true) : isMat (colsL R) = (colsL R).all isVec := by
  obtain ⟨n1, n2, -⟩ := sq_sm h1
  have hp := crComps_pos h1 h2
  have hl := colsL_len R
  have hm := crComps_len R
  unfold isMat
  rw [decide_eq_true (show 1 ≤ (colsL R).length by omega), decide_eq_true (show (colsL R).length ≤ 10 by omega), Bool.true_and, Bool.true_and]
  have hw : wid (colsL R) = R.length := cols_at (k := 0) (by omega)
  rw [hw]
  apply Bool.eq_iff_iff.2
  rw [List.all_eq_true, List.all_eq_true]
  refine ⟨fun h x hx => ?_, fun h x hx => ?_⟩
  · have := h x hx; rw [Bool.and_eq_true] at this; exact this.1
  · rw [Bool.and_eq_true]
    refine ⟨h x hx, ?_⟩
    obtain ⟨k, hk, e⟩ := List.mem_iff_getElem.1 hx
    have := cols_at hk
    rw [List.getD_eq_getElem?_getD, List.getElem?_eq_getElem hk, Option.getD_some, e] at this
    exact decide_eq_true this
theorem col_at {R : List (List Int)} {n k : Nat} (hn : R.length = n) (hk : k < (crComps R).length) : ∃ c : Nat, c < n ∧ 1 ≤ ((crComps R).getD k []).length ∧ ((crComps R).getD k []).getD 0 0 = (c : Int) ∧ (colsL R).getD k [] = (stcM (crS R) n).getD c [] ∧ (colIds R).take (k + 1) = (colIds R).take k ++ [c] := by
  subst hn
  have hm : (crComps R).getD k [] ∈ crComps R := by rw [List.getD_eq_getElem?_getD, List.getElem?_eq_getElem hk]; exact List.getElem_mem hk
  have hg : (crComps R).getD k [] = (crComps R)[k] := by rw [List.getD_eq_getElem?_getD, List.getElem?_eq_getElem hk]; rfl
  have hi : k < (colIds R).length := by unfold colIds; simpa using hk
  have hc : (colIds R)[k] = vx ((crComps R).getD k []) 0 := by rw [hg]; exact List.getElem_map _
  refine ⟨vx ((crComps R).getD k []) 0, (comps_up _ _ _).2 _ (List.mem_filter.1 hm).1, ?_, ?_, ?_, ?_⟩
  · obtain ⟨v, hv, -, e⟩ := mem_compsP.1 (List.mem_filter.1 hm).1
    rw [e]; exact compL_pos hv
  · obtain ⟨v, hv, -, e⟩ := mem_compsP.1 (List.mem_filter.1 hm).1
    rw [e]
    have := (rep_t (A := ent (crM R)) hv).2.2
    exact this
  · rw [← hc]
    unfold colsL
    rw [List.getD_eq_getElem?_getD, List.getElem?_map, List.getElem?_eq_getElem hi]
    rfl
  · rw [← hc, List.take_add_one, List.getElem?_eq_getElem hi]
    rfl
theorem takeL_next {L : List (List Int)} {k : Nat} (h : k < L.length) : L.take (k + 1) = L.take k ++ [L.getD k []] := by
  rw [List.take_add_one, List.getElem?_eq_getElem h, List.getD_eq_getElem?_getD, List.getElem?_eq_getElem h]
  rfl
theorem all_take {L : List (List Int)} {k : Nat} (h : k < L.length) (hv : isVec (L.getD k []) = false) : L.all isVec = false := by
  apply Bool.eq_false_iff.2
  intro e
  have := List.all_eq_true.1 e (L.getD k []) (by rw [List.getD_eq_getElem?_getD, List.getElem?_eq_getElem h]; exact List.getElem_mem h)
  rw [hv] at this
  exact Bool.false_ne_true this
theorem all_take_next {L : List (List Int)} {k : Nat} (h : k < L.length) (hv : isVec (L.getD k []) = true) (ha : (L.take k).all isVec = true) : (L.take (k + 1)).all isVec = true := by
  rw [takeL_next h, List.all_append, ha, List.all_cons, hv]
  rfl
theorem colsRes_ok (R : List (List Int)) : okM (colsRes R).1 := by
  unfold colsRes
  by_cases h : crCode R = 0
  · rw [if_pos h]
    obtain ⟨h1, h2⟩ := cr_code h
    by_cases hv : (colsL R).all isVec = true
    · rw [if_pos hv]; right; rw [cols_mat h1 h2]; exact hv
    · rw [if_neg hv]; exact .inl rfl
  · rw [if_neg h]; exact .inl rfl
end M
end Go.Proofs.YtihpbgjiohnekabGreat

namespace Go.Proofs.YtihpbgjiohnekabGreat
namespace M
theorem apply_at (R : List (List Int)) (l : List Int) {i : Nat} (hi : i < R.length) : (applyM R l).getD i 0 = dotV R l i l.length := by
  unfold applyM
  rw [List.getD_eq_getElem?_getD, List.getElem?_map, List.getElem?_range hi]; rfl
theorem isPotB_of {R : List (List Int)} {a b : Int} {x : List Int} (hs : sqB R = true) (hr : isRat a b = true) (hl : x.length = R.length) (hf : x.all isFin = true) :
    isPotB R a b x = (List.range R.length).all fun i => decide ((applyM (mk R.length R.length (shf (ent R) a b)) x).getD i 0 ≤ x.getD i 0) := by
  unfold isPotB holdsB
  rw [hs, hr, hf, decide_eq_true hl]
  have e : ∀ i, i < R.length → (applyM (mk R.length R.length (shf (ent R) a b)) x).getD i 0 = sumN R.length fun j => times (shf (ent R) a b i j) (x.getD j 0) := fun i hi => by
    rw [apply_at _ _ (by rw [mk_length]; exact hi), hl]
    unfold dotV
    exact sumN_congr fun j hj => by rw [ent_mk _ _ _ _ _ hi hj]
  simp only [Bool.true_and]
  rw [Bool.eq_iff_iff, List.all_eq_true, List.all_eq_true]
  constructor
  · intro h i hi; rw [e i (List.mem_range.1 hi)]; exact h i hi
  · intro h i hi; rw [← e i (List.mem_range.1 hi)]; exact h i hi
theorem isPotB_no {R : List (List Int)} {a b : Int} {x : List Int} (h : ¬ (x.length = R.length ∧ x.all isFin = true)) : isPotB R a b x = false := by
  unfold isPotB holdsB
  by_cases h1 : x.length = R.length
  · have h2 : x.all isFin = false := by
      cases e : x.all isFin with
      | false => rfl
      | true => exact absurd ⟨h1, e⟩ h
    rw [h2]; simp
  · rw [decide_eq_false h1]; simp
end M
namespace V
open Go.RowKit
set_option maxRecDepth 100000 in
set_option maxHeartbeats 400000 in
theorem indexI (a : Option Addr) (n cap : Nat) (l : List Int) (x : Int) (w : World) (h : Ints .i64 w a n l) :
    Calls Tryz.prog 155 #[.slice a n cap, .int .i64 x] w fun e w' => ∃ k : Int, e = .returned (.int .i64 k) ∧ (0 ≤ k ↔ x ∈ l) ∧ w = w' := by
  obtain ⟨hl, hm, hr⟩ := h
  unfold maxLen at hm
  have HL := Lib.hid hl
  clear hl
  go_enter Tryz.func155, Tryz.ntmps155
  go_wp2
  go_loop [5, 8] (fun _ i => ∃ k : Nat, k ≤ n ∧ i = .int .i64 k ∧ Hid (∀ i, i < k → l.getD i 0 ≠ x)) (fun _ i => n - (intOf i).toNat)
  case atStart => exact ⟨0, Nat.zero_le _, rfl, fun i hi => absurd hi (Nat.not_lt_zero i)⟩
  case round =>
    obtain ⟨k, hk, rfl, HK⟩ := hrel
    by_cases hlt : k < n
    · have hki : (k : Int) < (n : Int) := by omega
      rcases hr with h0 | ⟨b, off, rfl, hbl, hc⟩
      · omega
      · have hck := hc k hlt
        obtain ⟨y, hy⟩ : ∃ y, y = l.getD k 0 := ⟨_, rfl⟩
        rw [← hy] at hck
        have HY := Lib.hid hy
        clear hc hy
        by_cases hxy : x = y
        · have HM : Hid (x ∈ l) := by
            show _ ∈ _
            rw [hxy, HY.out]
            have hkl : k < l.length := by have := HL.out; omega
            rw [List.getD_eq_getElem?_getD, List.getElem?_eq_getElem hkl]
            exact List.getElem_mem hkl
          subst hxy
          go_wp2
          go_ret
          exact ⟨_, rfl, ⟨fun _ => HM.out, fun _ => by omega⟩, rfl⟩
        · have hxy2 : (x == y) = false := by simpa using hxy
          have HK2 : Hid (∀ i, i < k + 1 → l.getD i 0 ≠ x) := fun i hi => by
            by_cases e : i = k
            · subst e; rw [← HY.out]; exact fun e => hxy e.symm
            · exact HK.out i (by omega)
          go_wp2
          go_round
          case rel => exact ⟨k + 1, by omega, by go_num, HK2⟩
          case measure => simp [intOf]; omega
    · obtain rfl : k = n := by omega
      have HN : Hid (¬ x ∈ l) := fun hm => by
        obtain ⟨i, hi, rfl⟩ := List.mem_iff_getElem.1 hm
        have := HK.out i (by have := HL.out; omega)
        rw [List.getD_eq_getElem?_getD, List.getElem?_eq_getElem hi] at this
        exact this rfl
      clear hr
      go_wp2
      go_ret
      exact ⟨_, rfl, ⟨fun h => by omega, fun h => absurd h HN.out⟩, rfl⟩
set_option maxRecDepth 100000 in
set_option maxHeartbeats 400000 in
theorem containsI (a : Option Addr) (n cap : Nat) (l : List Int) (x : Int) (b : Bool) (w : World) (h : Ints .i64 w a n l) (hb : b = true ↔ x ∈ l) :
    Calls Tryz.prog 84 #[.slice a n cap, .int .i64 x] w fun e w' => e = .returned (.bool b) ∧ w = w' := by
  have HI := Lib.hid h
  have HB := Lib.hid hb
  clear h hb
  go_enter Tryz.func84, Tryz.ntmps84
  go_wp2_with fail
  refine (indexI _ _ _ l _ _ HI.out).mono ?_
  rintro e w' ⟨k, rfl, hk, rfl⟩
  have HK : Hid (decide (0 ≤ k) = b) := by
    show _ = _
    rw [Bool.eq_iff_iff, decide_eq_true_eq, hk, HB.out]
  clear hk
  go_wp2
  go_ret
  exact ⟨retB HK.out, rfl⟩
theorem vec_fin {l : List Int} (hv : M.isVec l = true) {b : Bool} (hb : l.all M.isFin = b) : (!b) = true ↔ (-1000000000000000 : Int) ∈ l := by
  subst hb
  rw [Bool.not_eq_true', ← Bool.not_eq_true, List.all_eq_true]
  constructor
  · intro h
    apply Classical.byContradiction
    intro hn
    apply h
    intro x hx
    obtain ⟨i, hi, rfl⟩ := List.mem_iff_getElem.1 hx
    have := M.isVal_t ((M.isVec_t hv).2.2 i hi)
    simp only [List.getD_eq_getElem?_getD, List.getElem?_eq_getElem hi, Option.getD_some] at this
    rcases this with e | e
    · rw [e] at hx; exact absurd hx hn
    · simp [M.isFin]; omega
  · intro h k
    have := k _ h
    exact absurd this (by decide)
end V
end Go.Proofs.YtihpbgjiohnekabGreat

namespace Go.Proofs.YtihpbgjiohnekabGreat
namespace M
def okArc (P : Nat → Nat → Int) (x : List Int) (i k : Nat) : Prop := P i k = -1000000000000000 ∨ P i k + x.getD k 0 ≤ x.getD i 0
theorem holdsB_of {R : List (List Int)} {a b : Int} {x : List Int} (hl : x.length = R.length) (hf : x.all isFin = true) :
    holdsB R a b x = true ↔ ∀ i, i < R.length → ∀ k, k < R.length → okArc (shf (ent R) a b) x i k := by
  unfold holdsB
  rw [hf, decide_eq_true hl]
  simp only [Bool.true_and, Bool.and_true, List.all_eq_true, List.mem_range, decide_eq_true_eq]
  have hfin : ∀ k, k < R.length → -1000000 ≤ x.getD k 0 ∧ x.getD k 0 ≤ 1000000 := fun k hk => by
    have hk' : k < x.length := by omega
    have := List.all_eq_true.1 hf x[k] (List.getElem_mem hk')
    rw [List.getD_eq_getElem?_getD, List.getElem?_eq_getElem hk']
    exact isFin_t this
  have ht : ∀ i k, k < R.length → times (shf (ent R) a b i k) (x.getD k 0) = if shf (ent R) a b i k = -1000000000000000 then -1000000000000000 else shf (ent R) a b i k + x.getD k 0 := fun i k hk => by
    have := hfin k hk
    unfold times
    by_cases e : shf (ent R) a b i k = -1000000000000000
    · rw [if_pos (.inl e), if_pos e]
    · rw [if_neg (by rintro (h | h) <;> omega), if_neg e]
  constructor
  · intro h i hi k hk
    have h1 := sum_ge (f := fun j => times (shf (ent R) a b i j) (x.getD j 0)) hk
    have h2 := h i hi
    have h1 : times (shf (ent R) a b i k) (x.getD k 0) ≤ _ := h1
    rw [ht i k hk] at h1
    by_cases e : shf (ent R) a b i k = -1000000000000000
    · exact .inl e
    · rw [if_neg e] at h1; exact .inr (Int.le_trans h1 h2)
  · intro h i hi
    have := hfin i hi
    refine sum_le (by omega) fun k hk => ?_
    show times (shf (ent R) a b i k) (x.getD k 0) ≤ _
    rw [ht i k hk]
    rcases h i hi k hk with e | e
    · rw [if_pos e]; omega
    · by_cases e2 : shf (ent R) a b i k = -1000000000000000
      · rw [if_pos e2]; omega
      · rw [if_neg e2]; exact e
end M
namespace V
open Go.RowKit
set_option maxRecDepth 100000 in
set_option maxHeartbeats 4000000 in
theorem sHolds (a : Option Addr) (n cap : Nat) (R : List (List Int)) (num den : Int) (a' : Option Addr) (N cap' : Nat) (l : List Int) (w0 : World) (h : Mat w0 a n R) (h' : Ints .i64 w0 a' N l) (hs : M.sqB R = true) (hr : M.isRat num den = true) :
    Calls Tryz.prog 86 #[.slice a n cap, .agg #[.int .i64 num, .int .i64 den], .slice a' N cap'] w0 fun e w' => e = .returned (.bool (M.holdsB R num den l)) ∧ Below w0.heap.size w0 w' := by
  obtain ⟨w, hwd⟩ : ∃ w, w = w0.alloc (rbox num den) := ⟨_, rfl⟩
  have HX : Hid (Boxed w0 w num den) := by show Boxed _ _ _ _; rw [hwd]; exact boxed _ _ _
  have HA : Hid (Mat w a n R) := h.below HX.out.below
  have HI : Hid (Ints .i64 w a' N l) := h'.below HX.out.below
  have HL := Lib.hid h'.1
  have HZ := Lib.hid HX.out.size
  obtain ⟨c0, c1⟩ := HX.out.cells (Below.refl _ _)
  obtain ⟨r1, n1, n2, r4⟩ := sq_parts HA.out hs
  have HQ := Lib.hid r1
  have HSm := Lib.hid r4
  have HR := Lib.hid hr
  have HSh : Hid (∀ i j, i < n → j < n → M.Sm 1000001000000 (M.shf (M.ent R) num den i j)) := fun i j hi hj => M.shf_sm (M.near_rat hr) (r4 i j hi hj)
  have HRl := Lib.hid HA.out.1
  by_cases hN : N = n
  · subst hN
    obtain ⟨b, hb⟩ : ∃ b, b = l.all M.isFin := ⟨_, rfl⟩
    have HF := Lib.hid hb.symm
    cases b with
    | true =>
      have HE : Hid (M.holdsB R num den l = true ↔ ∀ i, i < N → ∀ k, k < N → M.okArc (M.shf (M.ent R) num den) l i k) := by
        show _ ↔ _
        have := M.holdsB_of (a := num) (b := den) (show l.length = R.length by rw [HRl.out]; exact HL.out) hb.symm
        rw [HRl.out] at this
        exact this
      have HFin : Hid (∀ k, k < N → -1000000 ≤ l.getD k 0 ∧ l.getD k 0 ≤ 1000000) := fun k hk => by
        have hk' : k < l.length := by have := HL.out; omega
        have := List.all_eq_true.1 hb.symm l[k] (List.getElem_mem hk')
        rw [List.getD_eq_getElem?_getD, List.getElem?_eq_getElem hk']
        exact M.isFin_t this
      clear h h' hs hr r1 r4 hb
      go_enter Tryz.func86, Tryz.ntmps86
      go_wp2_with fail
      simp only [← hwd] at *
      clear hwd
      refine (sAllF_b _ _ _ l true HF.out _ HI.out).mono ?_
      rintro e w' ⟨rfl, rfl⟩
      go_wp2_with fail
      refine (sShift _ _ _ R _ _ _ HA.out HQ.out n1 n2 HSm.out (M.near_rat HR.out)).mono ?_
      rintro e w2 ⟨a2, cap2, rfl, hO, hb⟩
      obtain ⟨g, -, -, -, -, rfl, -⟩ := hO.tri (rect_mk _ _ _) 0 0 0 (by omega) (by omega) (by omega)
      have HO := Lib.hid hO
      have HB := Lib.hid (HX.out.trans hb)
      have HIl := Lib.hid (HI.out.below hb)
      clear hO hb
      obtain ⟨lb, lo, l0, rfl, -, -, -⟩ := HIl.out.at 0 (by omega)
      go_wp2
      go_loopw [8] (fun i wr => ∃ s : Nat, s ≤ N ∧ i = .int .i64 s ∧ Hid (∀ i, i < s → ∀ k, k < N → M.okArc (M.shf (M.ent R) num den) l i k) ∧ ∃ qd, wr = w2.drewN qd) (fun i _ => N - (intOf i).toNat)
      case atStart => exact ⟨0, Nat.zero_le _, rfl, fun i hi => absurd hi (Nat.not_lt_zero i), 0, rfl⟩
      case round =>
        obtain ⟨s, hs, rfl, HK, qd, rfl⟩ := hrel
        by_cases hsl : s < N
        · have hsi : (s : Int) < (N : Int) := by omega
          go_wp2
          go_loopw [9] (fun j wr => ∃ t : Nat, t ≤ N ∧ j = .int .i64 t ∧ Hid (∀ k, k < t → M.okArc (M.shf (M.ent R) num den) l s k) ∧ ∃ qd, wr = w2.drewN qd) (fun j _ => N - (intOf j).toNat)
          case atStart => exact ⟨0, Nat.zero_le _, rfl, fun i hi => absurd hi (Nat.not_lt_zero i), _, rfl⟩
          case round =>
            obtain ⟨t, ht, rfl, HJ, qe, rfl⟩ := hrel
            by_cases htl : t < N
            · have hti : (t : Int) < (N : Int) := by omega
              obtain ⟨g2, q, c, q', c', hgg, hq, h1, h2, -, -, -, -, -⟩ := HO.out.tri (rect_mk _ _ _) s t t hsl htl htl
              injection hgg with hgg
              injection hgg with hgg
              subst hgg
              rw [M.ent_mk _ _ _ _ _ hsl htl] at h2
              obtain ⟨d1, d2, u, hd, -, hu, cu⟩ := HIl.out.at t htl
              injection hd with hd
              injection hd with e1 e2
              subst e1 e2
              obtain ⟨d1, d2, v, hd, -, hv, cv⟩ := HIl.out.at s hsl
              injection hd with hd
              injection hd with e1 e2
              subst e1 e2
              have hfu := HFin.out t htl
              have hfv := HFin.out s hsl
              rw [← hu] at hfu
              rw [← hv] at hfv
              have HU := Lib.hid hu
              have HVv := Lib.hid hv
              obtain ⟨z, hz⟩ : ∃ z, z = M.shf (M.ent R) num den s t := ⟨_, rfl⟩
              rw [← hz] at h2
              have hzs := HSh.out s t hsl htl
              rw [← hz] at hzs
              unfold M.Sm at hzs
              have HZz := Lib.hid hz
              clear hu hv hz
              by_cases hzb : z = -1000000000000000
              · have HJ2 : Hid (∀ k, k < t + 1 → M.okArc (M.shf (M.ent R) num den) l s k) := fun k hk => by
                  by_cases e : k = t
                  · subst e; left; rw [← HZz.out, hzb]
                  · exact HJ.out k (by omega)
                subst hzb
                go_wp2
                go_quiet (fail)
                go_wp2
                go_roundw
                case rel => exact ⟨t + 1, by omega, by go_num, HJ2, _, by first | rfl | exact World.drewN_drewN _ _ _⟩
                case measure => simp [intOf]; omega
              · have hzn : (z != -1000000000000000) = true := by simpa using hzb
                have hzn2 : (z == -1000000000000000) = false := by simpa using hzb
                have e1 : IntKind.i64.wrap (z + u) = z + u := IntWalk.i64_in _ (by omega)
                by_cases hgt : v < z + u
                · have HFf : Hid (M.holdsB R num den l = false) := by
                    show _ = _
                    cases e : M.holdsB R num den l with
                    | false => rfl
                    | true =>
                      have := HE.out.1 e s hsl t htl
                      unfold M.okArc at this
                      rw [← HZz.out, ← HU.out, ← HVv.out] at this
                      omega
                  go_wp2
                  go_quiet (fail)
                  go_wp2
                  go_ret
                  exact ⟨retB HFf.out.symm, by first | exact below_drewN HB.out _ | exact below_drewN (below_drewN HB.out _) _⟩
                · have hgt2 : z + u ≤ v := by omega
                  have HJ2 : Hid (∀ k, k < t + 1 → M.okArc (M.shf (M.ent R) num den) l s k) := fun k hk => by
                    by_cases e : k = t
                    · subst e; right; rw [← HZz.out, ← HU.out, ← HVv.out]; exact hgt2
                    · exact HJ.out k (by omega)
                  go_wp2
                  go_quiet (fail)
                  go_wp2
                  go_roundw
                  case rel => exact ⟨t + 1, by omega, by go_num, HJ2, _, by first | rfl | exact World.drewN_drewN _ _ _⟩
                  case measure => simp [intOf]; omega
            · obtain rfl : t = N := by omega
              have HK2 : Hid (∀ i, i < s + 1 → ∀ k, k < t → M.okArc (M.shf (M.ent R) num den) l i k) := fun i hi k hk => by
                by_cases e : i = s
                · subst e; exact HJ.out k hk
                · exact HK.out i (by omega) k hk
              go_wp2
              go_roundw
              case rel => exact ⟨s + 1, by omega, by go_num, HK2, _, rfl⟩
              case measure => simp [intOf]; omega
        · obtain rfl : s = N := by omega
          have HT : Hid (M.holdsB R num den l = true) := HE.out.2 fun i hi k hk => HK.out i hi k hk
          go_wp2
          go_ret
          exact ⟨retB HT.out.symm, below_drewN HB.out _⟩
    | false =>
      have HE : Hid (M.holdsB R num den l = false) := by show _ = _; unfold M.holdsB; rw [← hb]; simp
      clear h h' hs hr r1 r4 hb
      go_enter Tryz.func86, Tryz.ntmps86
      go_wp2_with fail
      simp only [← hwd] at *
      clear hwd
      refine (sAllF_b _ _ _ l false HF.out _ HI.out).mono ?_
      rintro e w' ⟨rfl, rfl⟩
      go_wp2
      go_ret
      exact ⟨retB HE.out.symm, HX.out.below⟩
  · have HE : Hid (M.holdsB R num den l = false) := by
      show _ = _; unfold M.holdsB
      rw [decide_eq_false (fun e => hN (by rw [← HL.out, e, HRl.out]))]; simp
    have hne : ((N : Int) != (n : Int)) = true := by simp; omega
    have hne2 : ((N : Int) == (n : Int)) = false := by simp; omega
    have hne3 : (N == n) = false := by simpa using hN
    clear h h' hs hr r1 r4
    go_enter Tryz.func86, Tryz.ntmps86
    go_wp2
    try simp only [← hwd] at *
    go_ret
    exact ⟨retB HE.out.symm, HX.out.below⟩
set_option maxRecDepth 100000 in
set_option maxHeartbeats 2000000 in
theorem sIsPotential (a : Option Addr) (n cap : Nat) (R : List (List Int)) (num den : Int) (a' : Option Addr) (N cap' : Nat) (l : List Int) (w0 : World) (h : Mat w0 a n R) (h' : Ints .i64 w0 a' N l) :
    Calls Tryz.prog 20 #[.slice a n cap, .agg #[.int .i64 num, .int .i64 den], .slice a' N cap'] w0 fun e w' => e = .returned (.bool (M.isPotB R num den l)) ∧ Below w0.heap.size w0 w' := by
  obtain ⟨w, hwd⟩ : ∃ w, w = w0.alloc (rbox num den) := ⟨_, rfl⟩
  have HX : Hid (Boxed w0 w num den) := by show Boxed _ _ _ _; rw [hwd]; exact boxed _ _ _
  have HA : Hid (Mat w a n R) := h.below HX.out.below
  have HI : Hid (Ints .i64 w a' N l) := h'.below HX.out.below
  have HZ := Lib.hid HX.out.size
  by_cases hs : M.sqB R = true
  · have HS := Lib.hid hs
    by_cases hr : M.isRat num den = true
    · have HR := Lib.hid hr
      have HE : Hid (M.isPotB R num den l = M.holdsB R num den l) := by show _ = _; unfold M.isPotB; rw [hs, hr]; rfl
      clear h h' hs hr
      go_enter Tryz.func20, Tryz.ntmps20
      go_wp2_with fail
      simp only [← hwd] at *
      clear hwd
      refine (sSquare_b _ _ _ R _ true HS.out HA.out).mono ?_
      rintro e w' ⟨rfl, qd, rfl⟩
      obtain ⟨p0, p1⟩ := HX.out.cells (b_draws w qd)
      go_wp2_with fail
      refine (sIsRatio_b _ _ true HR.out _).mono ?_
      rintro e w1 ⟨rfl, hb1⟩
      have HB1 := Lib.hid ((b_draws w qd).trans hb1)
      obtain ⟨p0, p1⟩ := HX.out.cells HB1.out
      clear hb1
      go_wp2_with fail
      refine (sHolds _ _ _ R _ _ _ _ _ l _ (HA.out.below HB1.out) (HI.out.below HB1.out) HS.out HR.out).mono ?_
      rintro e w2 ⟨rfl, hb⟩
      have HB2 := Lib.hid (HX.out.trans (bnext HB1.out hb))
      clear hb
      go_wp2
      go_ret
      exact ⟨retB HE.out.symm, HB2.out⟩
    · simp only [Bool.not_eq_true] at hr
      have HR := Lib.hid hr
      have HE : Hid (M.isPotB R num den l = false) := by show _ = _; unfold M.isPotB; rw [hs, hr]; rfl
      clear h h' hs hr
      go_enter Tryz.func20, Tryz.ntmps20
      go_wp2_with fail
      simp only [← hwd] at *
      clear hwd
      refine (sSquare_b _ _ _ R _ true HS.out HA.out).mono ?_
      rintro e w' ⟨rfl, qd, rfl⟩
      obtain ⟨p0, p1⟩ := HX.out.cells (b_draws w qd)
      go_wp2_with fail
      refine (sIsRatio_b _ _ false HR.out _).mono ?_
      rintro e w1 ⟨rfl, hb1⟩
      have HB1 := Lib.hid (HX.out.trans ((b_draws w qd).trans hb1))
      clear hb1
      go_wp2
      go_ret
      exact ⟨retB HE.out.symm, HB1.out⟩
  · simp only [Bool.not_eq_true] at hs
    have HS := Lib.hid hs
    have HE : Hid (M.isPotB R num den l = false) := by show _ = _; unfold M.isPotB; rw [hs]; rfl
    clear h h' hs
    go_enter Tryz.func20, Tryz.ntmps20
    go_wp2_with fail
    simp only [← hwd] at *
    clear hwd
    refine (sSquare_b _ _ _ R _ false HS.out HA.out).mono ?_
    rintro e w' ⟨rfl, qd, rfl⟩
    go_wp2
    go_ret
    exact ⟨retB HE.out.symm, HX.out.trans (b_draws w qd)⟩
end V
end Go.Proofs.YtihpbgjiohnekabGreat

namespace Go.Proofs.YtihpbgjiohnekabGreat
namespace M
def kept (p : Nat → Bool) (k : Nat) : List Nat := (List.range k).filter p
theorem kept_next (p : Nat → Bool) (k : Nat) : kept p (k + 1) = kept p k ++ (if p k then [k] else []) := by
  unfold kept
  rw [List.range_succ, List.filter_append]
  congr 1
  by_cases h : p k = true
  · rw [if_pos h]; simp [h]
  · rw [if_neg h]; simp [h]
theorem kept_len (p : Nat → Bool) (k : Nat) : (kept p k).length ≤ k := by
  unfold kept
  exact Nat.le_trans (List.length_filter_le _ _) (by simp)
theorem kept_all {p : Nat → Bool} {k : Nat} (h : ∀ x, x < k → p x = true) : kept p k = List.range k := by
  unfold kept
  exact List.filter_eq_self.2 fun x hx => h x (List.mem_range.1 hx)
end M
namespace V
set_option maxRecDepth 100000
open Go.RowKit
theorem Chg.drewN {S : Nat → Prop} {a b : World} (h : Chg S a b) (q : Nat) : Chg S a (b.drewN q) := ⟨h.os, h.tape, h.output, h.size, h.other⟩
theorem ownsRow_drewN {w : World} {B : Nat} {e : TypeId} {s n : Nat} {v : Value} {xs : List Value} (h : w.ownsRow B e s v n xs) (q : Nat) : (w.drewN q).ownsRow B e s v n xs := h
theorem ownsRow_cells {B : Nat} {e : TypeId} {g N c : Nat} : ∀ (vs : List Value) (o : Nat) (W : World) (VV : List Value), W.ownsRow B e 1 (.slice (some ⟨g, 0, none⟩) N c) N VV → 
    ∃ VV', (W.setCells g o vs).ownsRow B e 1 (.slice (some ⟨g, 0, none⟩) N c) N VV' ∧ VV'.take o = VV.take o ∧ Chg (fun k => k = g) W (W.setCells g o vs)
  | [], o, W, VV, h => ⟨VV, h, rfl, Chg.refl _ _⟩
  | v :: r, o, W, VV, h => by
    obtain ⟨VV', h1, h2, h3⟩ := ownsRow_cells r (o + 1) (W.setCell ⟨g, o, none⟩ v) (VV.set o v) (World.ownsRow.stored h o v).1
    refine ⟨VV', h1, ?_, ((Chg.refl (fun k => k = g) W).set rfl v).trans h3⟩
    have e : VV'.take o = (VV'.take (o + 1)).take o := by rw [List.take_take]; congr 1; omega
    rw [e, h2, List.take_take, show min o (o + 1) = o by omega, List.take_set_of_le (Nat.le_refl o)]
theorem ownsRow_cut {W : World} {B : Nat} {e : TypeId} {g N c i : Nat} {VV : List Value} (h : W.ownsRow B e 1 (.slice (some ⟨g, 0, none⟩) N c) N VV) (hi : i ≤ N) : W.ownsRow B e 1 (.slice (some ⟨g, 0, none⟩) i c) i (VV.take i) := by
  obtain ⟨h1, h2⟩ := h
  rcases h2 with ⟨h', -⟩ | ⟨g', cap', cur, h', hb, hg, hnc, hcm, hcs, htake⟩
  · simp at h'
  · simp only [Value.slice.injEq, Option.some.injEq, Addr.mk.injEq, and_true, true_and] at h'
    obtain ⟨rfl, rfl⟩ := h'
    refine ⟨by rw [List.length_take]; omega, .inr ⟨g, c, cur, rfl, hb, hg, by omega, hcm, hcs, ?_⟩⟩
    rw [← htake, List.take_take]
    congr 1
    omega
theorem ownsRow_at {W : World} {B N g c : Nat} {e : TypeId} {VV : List Value} (h : W.ownsRow B e 1 (.slice (some ⟨g, 0, none⟩) N c) N VV) (k : Nat) (hk : k < N) : W.cell? ⟨g, k, none⟩ = some (VV.getD k (.slice none 0 0)) := by
  have hl := h.1
  rw [World.ownsRow.cellAt h k (by omega), List.getD_eq_getElem?_getD, List.getElem?_eq_getElem (by omega), Option.getD_some]
set_option maxRecDepth 100000 in
set_option maxHeartbeats 2000000 in
theorem indexF (g N c : Nat) (fp : Value) (V : List Value) (p : Nat → Bool) (w : World) (hN : N ≤ 10) (hc : ∀ k, k < N → w.cell? ⟨g, k, none⟩ = some (V.getD k (.slice none 0 0)))
    (hp : ∀ q k, k < N → Calls Tryz.prog 186 #[V.getD k (.slice none 0 0), fp] (w.drewN q) fun e w' => e = .returned (.bool (!p k)) ∧ ∃ q', w' = (w.drewN q).drewN q') :
    Calls Tryz.prog 206 #[.slice (some ⟨g, 0, none⟩) N c, .func (.func 186) #[] #[fp]] w fun e w' => (∃ q, w' = w.drewN q) ∧
      ((e = .returned (.int .i64 (-1)) ∧ ∀ x, x < N → p x = true) ∨ ∃ j : Nat, j < N ∧ e = .returned (.int .i64 j) ∧ p j = false ∧ ∀ x, x < j → p x = true) := by
  have HP := Lib.hid hp
  have HC := Lib.hid hc
  clear hp hc
  go_enter Tryz.func206, Tryz.ntmps206
  go_wp2
  go_loopw [5, 8] (fun _ iv wr => ∃ k : Nat, k ≤ N ∧ iv = .int .i64 k ∧ Hid (∀ x, x < k → p x = true) ∧ Hid (∃ q, wr = w.drewN q)) (fun _ iv _ => N - (intOf iv).toNat)
  case atStart => exact ⟨0, Nat.zero_le _, rfl, fun x hx => absurd hx (Nat.not_lt_zero x), 0, rfl⟩
  case round =>
    obtain ⟨k, hk, rfl, HA, HW⟩ := hrel
    obtain ⟨q, hq⟩ := HW.out
    subst hq
    by_cases hkl : k < N
    · have hki : (k : Int) < (N : Int) := by omega
      have cr : (w.drewN q).cell? ⟨g, k, none⟩ = some (V.getD k (.slice none 0 0)) := HC.out k hkl
      have hcall := HP.out q k hkl
      have HV : Hid (V.getD k (.slice none 0 0) = V.getD k (.slice none 0 0)) := rfl
      generalize V.getD k (.slice none 0 0) = v at *
      clear HV
      obtain ⟨t, ht⟩ : ∃ t, t = p k := ⟨_, rfl⟩
      have HT := Lib.hid ht
      rw [← ht] at hcall
      clear ht
      cases t with
      | true =>
        have HCa := Lib.hid hcall
        clear hcall
        go_wp2_with (go_at_call 186; refine (HCa.out).mono ?_; rintro e w' ⟨rfl, q', rfl⟩)
        go_roundw
        case rel => exact ⟨k + 1, by omega, by go_num, fun x hx => by rcases Nat.lt_or_ge x k with h | h; exact HA.out x h; rw [show x = k by omega]; exact HT.out.symm, q + q', rfl⟩
        case measure => simp [intOf]; omega
      | false =>
        have HCa := Lib.hid hcall
        clear hcall
        go_wp2_with (go_at_call 186; refine (HCa.out).mono ?_; rintro e w' ⟨rfl, q', rfl⟩)
        go_ret
        exact ⟨⟨q + q', rfl⟩, .inr ⟨k, hkl, rfl, HT.out.symm, HA.out⟩⟩
    · obtain rfl : k = N := by omega
      go_wp2
      go_ret
      exact ⟨⟨q, rfl⟩, .inl ⟨rfl, HA.out⟩⟩
set_option maxRecDepth 100000 in
set_option maxHeartbeats 4000000 in
theorem deleteF (B g N c : Nat) (fp : Value) (V : List Value) (p : Nat → Bool) (w : World) (hN : N ≤ 10) (hV : w.ownsRow B 29 1 (.slice (some ⟨g, 0, none⟩) N c) N V)
    (hcap : N ≤ c) (hsl : ∀ k, k < N → ∃ ra m rc, V.getD k (.slice none 0 0) = .slice ra m rc)
    (hp : ∀ W k, k < N → Chg (fun b => b = g) w W → Calls Tryz.prog 186 #[V.getD k (.slice none 0 0), fp] W fun e w' => e = .returned (.bool (!p k)) ∧ ∃ q', w' = W.drewN q') :
    Calls Tryz.prog 184 #[.slice (some ⟨g, 0, none⟩) N c, .func (.func 186) #[] #[fp]] w fun e w' => e = .returned (.slice (some ⟨g, 0, none⟩) (M.kept p N).length c) ∧
      w'.ownsRow B 29 1 (.slice (some ⟨g, 0, none⟩) (M.kept p N).length c) (M.kept p N).length ((M.kept p N).map fun i => V.getD i (.slice none 0 0)) ∧ Chg (fun b => b = g) w w' := by
  have HP := Lib.hid hp
  have HV := Lib.hid hV
  have HS := Lib.hid hsl
  have hVl : V.length = N := by have := hV.1; omega
  have HI := Lib.hid (indexF g N c fp V p w hN (fun k hk => ownsRow_at hV k hk) fun q k hk => by
    refine (hp (w.drewN q) k hk ((Chg.refl _ _).drewN q)).mono ?_
    rintro e w' ⟨he, q', hq⟩
    exact ⟨he, q', hq⟩)
  clear hp hV hsl
  go_enter Tryz.func184, Tryz.ntmps184
  go_wp2_with fail
  refine (HI.out).mono ?_
  rintro e w1 ⟨⟨q1, rfl⟩, ⟨rfl, hall⟩ | ⟨j0, hj0, rfl, hj1, hj2⟩⟩
  · have hk := M.kept_all hall
    have HE : Hid ((M.kept p N).length = N ∧ (M.kept p N).map (fun i => V.getD i (.slice none 0 0)) = V) := by
      refine ⟨by rw [hk]; simp, ?_⟩
      rw [hk]
      apply List.ext_getElem
      · simp [hVl]
      · intro x h1 h2
        simp only [List.getElem_map, List.getElem_range]
        rw [List.getD_eq_getElem?_getD, List.getElem?_eq_getElem h2, Option.getD_some]
    clear hall hk
    go_wp2
    go_ret
    refine ⟨by rw [HE.out.1]; rfl, ?_, (Chg.refl _ _).drewN q1⟩
    rw [HE.out.2, HE.out.1]
    exact HV.out
  · have hk : M.kept p (j0 + 1) = List.range j0 := by rw [M.kept_next, hj1, M.kept_all hj2]; simp
    have HK := Lib.hid hk
    have hne : ((j0 : Int) == -1) = false := by rw [beq_eq_false_iff_ne]; omega
    clear hj1 hj2 hk
    go_wp2
    go_loopw [5, 6, 7] (fun iv jv _ wr => ∃ (k : Nat) (VV : List Value), k ≤ N ∧ jv = .int .i64 k ∧ iv = .int .i64 (M.kept p k).length ∧ (M.kept p k).length < k ∧ Hid (wr.ownsRow B 29 1 (.slice (some ⟨g, 0, none⟩) N c) N VV) ∧ Hid (∀ x, x < (M.kept p k).length → VV.getD x (.slice none 0 0) = V.getD ((M.kept p k).getD x 0) (.slice none 0 0)) ∧ Hid (∀ x, k ≤ x → x < N → VV.getD x (.slice none 0 0) = V.getD x (.slice none 0 0)) ∧ Hid (Chg (fun b => b = g) w wr)) (fun _ jv _ _ => N - (intOf jv).toNat)
    case atStart =>
      refine ⟨j0 + 1, V, by omega, by go_num, by rw [HK.out]; simp, by rw [HK.out]; simp, HV.out, fun x hx => ?_, fun x _ _ => rfl, (Chg.refl _ _).drewN q1⟩
      rw [HK.out] at hx ⊢
      have hx2 : x < j0 := by simpa using hx
      congr 1
      rw [List.getD_eq_getElem?_getD, List.getElem?_range hx2]
      rfl
    case round =>
      obtain ⟨k, VV, hk, rfl, rfl, hik, HO, HL, HH, HC⟩ := hrel
      have hVVl : VV.length = N := by have := HO.out.1; omega
      by_cases hkl : k < N
      · have hki : (k : Int) < (N : Int) := by omega
        obtain ⟨ra, m, rc, hv⟩ := HS.out k hkl
        have cr : wr.cell? ⟨g, k, none⟩ = some (.slice ra m rc) := by rw [ownsRow_at HO.out k hkl, HH.out k (Nat.le_refl _) hkl, hv]
        have hcall := HP.out wr k hkl HC.out
        rw [hv] at hcall
        have HVk := Lib.hid hv
        have ci := ownsRow_at HO.out (M.kept p k).length (by omega)
        have fi := World.ownsRow.frozenAt HO.out (M.kept p k).length
        have hii : ((M.kept p k).length : Int) < (N : Int) := by omega
        have hnx := M.kept_next p k
        obtain ⟨t, ht⟩ : ∃ t, t = p k := ⟨_, rfl⟩
        rw [← ht] at hcall hnx
        have HCa := Lib.hid hcall
        generalize VV.getD (M.kept p k).length (.slice none 0 0) = old at ci
        clear hcall ht hv
        cases t with
        | false =>
          have HN : Hid (M.kept p (k + 1) = M.kept p k) := by show _ = _; rw [hnx]; simp
          clear hnx ci fi
          generalize hgk : M.kept p k = kp at *
          clear hgk
          generalize hgl : kp.length = i at *
          have HGl := Lib.hid hgl
          clear hgl
          go_wp2_with (go_at_call 186; refine (HCa.out).mono ?_; rintro e w' ⟨rfl, q', rfl⟩)
          go_roundw
          case rel => exact ⟨k + 1, VV, by omega, by go_num, by rw [HN.out, HGl.out], by rw [HN.out, HGl.out]; omega, HO.out, by show ∀ x, _ → _; rw [HN.out, HGl.out]; exact HL.out, fun x h1 h2 => HH.out x (by omega) h2, HC.out.drewN q'⟩
          case measure => simp [intOf]; omega
        | true =>
          have HN : Hid (M.kept p (k + 1) = M.kept p k ++ [k]) := by show _ = _; rw [hnx]; simp
          clear hnx
          generalize hgk : M.kept p k = kp at *
          clear hgk
          generalize hgl : kp.length = i at *
          have HGl := Lib.hid hgl
          clear hgl
          go_wp2_with (go_at_call 186; refine (HCa.out).mono ?_; rintro e w' ⟨rfl, q', rfl⟩)
          go_roundw
          case rel =>
            refine ⟨k + 1, VV.set i (.slice ra m rc), by omega, by go_num, by rw [HN.out, List.length_append, HGl.out]; go_num, by rw [HN.out, List.length_append, HGl.out]; simp; omega, (World.ownsRow.stored (ownsRow_drewN HO.out q') i (.slice ra m rc)).1, fun x hx => ?_, fun x h1 h2 => ?_, (HC.out.drewN q').set rfl _⟩
            · rw [HN.out] at hx ⊢
              rw [List.length_append, HGl.out] at hx
              rw [getD_set _ _ _ _ _ (by omega)]
              by_cases e : x = i
              · have e1 : (kp ++ [k]).getD kp.length 0 = k := by simp
                rw [if_pos e, e, ← HGl.out, e1, HVk.out]
              · have hx2 : x < i := by simp at hx; omega
                have e0 : (kp ++ [k]).getD x 0 = kp.getD x 0 := by rw [List.getD_eq_getElem?_getD, List.getD_eq_getElem?_getD, List.getElem?_append_left (by have := HGl.out; omega)]
                rw [if_neg e, HL.out x hx2, e0]
            · rw [getD_set _ _ _ _ _ (by omega), if_neg (by omega)]
              exact HH.out x (by omega) h2
          case measure => simp [intOf]; omega
      · obtain rfl : k = N := by omega
        have hkk : ¬ (k : Int) < (k : Int) := by omega
        have hcl : ∀ ty, (Builtin.clear_ #[24] ty #[.slice (some ⟨g, (M.kept p k).length, none⟩) (k - (M.kept p k).length) (c - (M.kept p k).length)]).run Tryz.prog wr = .ok (.tuple #[]) (wr.setCells g (M.kept p k).length (List.replicate (k - (M.kept p k).length) (.slice none 0 0))) :=
          fun ty => Lib.run_clear_slice wr _ _ ty _ Tryz.underlying24 Tryz.zeroValue29 rfl rfl g _ _ _ (by omega) (fun t ht => by rw [ownsRow_at HO.out _ (by omega)]; rfl) (fun t ht => World.ownsRow.frozenAt HO.out _)
        obtain ⟨VV', h1, h2, h3⟩ := ownsRow_cells (List.replicate (k - (M.kept p k).length) (.slice none 0 0)) (M.kept p k).length wr VV HO.out
        have hcut := ownsRow_cut h1 (i := (M.kept p k).length) (by omega)
        have e : VV'.take (M.kept p k).length = (M.kept p k).map (fun i => V.getD i (.slice none 0 0)) := by
          rw [h2]
          apply List.ext_getElem
          · simp; omega
          · intro x k1 k2
            have hx : x < (M.kept p k).length := by simpa using k2
            have := HL.out x hx
            rw [List.getD_eq_getElem?_getD, List.getElem?_eq_getElem (by omega), Option.getD_some] at this
            rw [List.getElem_take, this, List.getElem_map]
            congr 1
            rw [List.getD_eq_getElem?_getD, List.getElem?_eq_getElem hx, Option.getD_some]
        rw [e] at hcut
        have HCut := Lib.hid hcut
        have HCg := Lib.hid (HC.out.trans h3)
        clear hcut e h1 h2 h3
        generalize hgi : (M.kept p k).length = i at *
        have HGi := Lib.hid hgi
        clear hgi
        go_wp2
        go_ret
        have hgi := HGi.out
        subst hgi
        exact ⟨rfl, HCut.out, HCg.out⟩
end V
end Go.Proofs.YtihpbgjiohnekabGreat
