/- Texts laid together: Fdt. -/
import Derived.Test.YtjbffpmelglegaaQa93
import Derived.Test.YtjbffpmelglegaaQa4
import Derived.Test.YtjbffpmelglegaaQa7
set_option linter.unusedSimpArgs false
set_option linter.unusedVariables false
set_option linter.unusedSectionVars false
namespace Go.Proofs.Ytjbffpmelglegaa
namespace V
set_option maxRecDepth 100000
open Go.RowKit
/-- A graph in the box gb, the result's box R below the source g. -/
structure DS (g R gb B : Nat) (w wr : World) (x : Int) (q n c : Nat) (l : List M.Pc) : Prop where
  res : ResG wr R
  ev : wr.cell? ⟨gb, 0, none⟩ = some (.int .i64 x)
  pl : wr.cell? ⟨gb, 1, none⟩ = some (.slice (some ⟨q, 0, none⟩) n c)
  own : OwnPl wr B (.slice (some ⟨q, 0, none⟩) n c) l
  rg : R < g
  gB : g < B
  Bq : q < gb
  wR : w.heap.size ≤ R
  src : Src wr g
  bel : Below w.heap.size w wr
theorem DS.base {g R gb B : Nat} {w wr w' : World} {x : Int} {q n c : Nat} {l : List M.Pc} (h : DS g R gb B w wr x q n c l) {B2 : Nat} (hB : gb < B2) (hb : Below B2 wr w') : DS g R gb B w w' x q n c l := by
  obtain ⟨⟨r0, r1, r2, r3⟩, h2, h3, h4, h5, h6, h7, h8, h9, h10⟩ := h
  have hqB := (h4.lt (k := q) rfl).1
  have hRb := hb.block R (by omega)
  exact ⟨⟨(World.cell?_of_block (a := ⟨R, 0, none⟩) hRb).trans r0, (World.cell?_of_block (a := ⟨R, 1, none⟩) hRb).trans r1, (World.frozen?_of_block (a := ⟨R, 0, none⟩) hRb).trans r2, (World.frozen?_of_block (a := ⟨R, 1, none⟩) hRb).trans r3⟩,
    (hb.cell (p := ⟨gb, 0, none⟩) hB).trans h2, (hb.cell (p := ⟨gb, 1, none⟩) hB).trans h3, h4.keepB fun k hk => hb.block k (by simp [Value.ownBlock] at hk; omega), h5, h6, h7, h8, h9.below (hb.mono (by omega)), h10.trans (hb.mono (by omega))⟩
theorem DS.step {g R gb B : Nat} {w wr w' : World} {x : Int} {q n c : Nat} {l : List M.Pc} (h : DS g R gb B w wr x q n c l) (hs : Src w' g) (ht : Thr g wr w') : DS g R gb B w w' x q n c l := by
  obtain ⟨⟨r0, r1, r2, r3⟩, h2, h3, h4, h5, h6, h7, h8, h9, h10⟩ := h
  have hqB := (h4.lt (k := q) rfl).1
  have hgl : gb < wr.heap.size := cell_lt h2
  have hRb := ht.below.block R h5
  exact ⟨⟨(World.cell?_of_block (a := ⟨R, 0, none⟩) hRb).trans r0, (World.cell?_of_block (a := ⟨R, 1, none⟩) hRb).trans r1, (World.frozen?_of_block (a := ⟨R, 0, none⟩) hRb).trans r2, (World.frozen?_of_block (a := ⟨R, 1, none⟩) hRb).trans r3⟩,
    (ht.cell (p := ⟨gb, 0, none⟩) hgl (by show gb ≠ g; omega)).trans h2, (ht.cell (p := ⟨gb, 1, none⟩) hgl (by show gb ≠ g; omega)).trans h3, h4.thr ht h6, h5, h6, h7, h8, hs, h10.trans (ht.below.mono (by omega))⟩
theorem Own.thrS {w w' : World} {B g : Nat} {v : Value} {l : List Int} (h : Own w B v l) (ht : Thr g w w') (hB : g < B) : Own w' B v l := h.keep (fun k h1 h2 => ht.other k (by omega) h2)
/-- A drawn graph, a drawn number and drawn starts, for a law. -/
def DrawnGIS (w : World) (e : Ending) (w' : World) : Prop :=
  ∃ (x : Int) (q n c : Nat) (l : List M.Pc) (y : Int) (fa : Option Addr) (m c2 : Nat) (S : List Int), e = .returned (.tuple #[.agg #[.int .i64 x, .slice (some ⟨q, 0, none⟩) n c], .int .i64 y, .slice fa m c2]) ∧ Pls w' (some ⟨q, 0, none⟩) n l ∧ Ints .i64 w' fa m S ∧ n ≤ 60 ∧ m ≤ 12 ∧ Below w.heap.size w w'
set_option maxRecDepth 100000 in
set_option maxHeartbeats 8000000 in
theorem drawStartedTimes (a : Option Addr) (mm cap : Nat) (w : World) (h : Bytes w a mm) :
    Calls Try.prog 56 #[.slice a mm cap] w (DrawnGIS w) := by
  have hb0 := b_alloc w (.cells #[.int .i64 0, .slice none 0 0] 41)
  have HB := Lib.hid (h.below hb0)
  have HB0 := Lib.hid hb0
  clear h hb0
  go_enter Try.func56, Try.ntmps56
  go_wp2_with fail
  refine (from_ _ _ _ _ HB.out).mono ?_
  rintro e w1 ⟨rfl, hs1, hb1⟩
  have HR1 := Lib.hid ((resG_new w 41).below hb1)
  have HB1 := Lib.hid (HB0.out.trans (hb1.mono HB0.out.size))
  have HS1 := Lib.hid hs1
  have hgz : (w.alloc (.cells #[.int .i64 0, .slice none 0 0] 41)).heap.size = w.heap.size + 1 := by simp
  rw [hgz] at HS1
  clear hs1 hb1
  go_wp2_with fail
  refine (draw13 (w.heap.size + 1) _ (by first | exact HS1.out | (have := HS1.out; simpa using this))).mono ?_
  rintro e w2 ⟨x, q, n, c, l, y, rfl, ho, hn60, ⟨hx0, hx11⟩, hs, ht⟩
  have hg1 := HS1.out.lt
  have hq1 := (ho.lt (k := q) rfl).1
  have hq2 := (ho.lt (k := q) rfl).2
  have HDS : Hid (DS (w.heap.size + 1) w.heap.size w2.heap.size w1.heap.size w (w2.alloc (.cells #[.int .i64 x, .slice (some ⟨q, 0, none⟩) n c] 41)) x q n c l) := by
    have hb2 := b_alloc w2 (.cells #[.int .i64 x, .slice (some ⟨q, 0, none⟩) n c] 41)
    obtain ⟨r0, r1, r2, r3⟩ := HR1.out
    have hl : w.heap.size < w.heap.size + 1 := Nat.lt_succ_self _
    have hr2 : ResG w2 w.heap.size := ⟨(ht.below.cell (p := ⟨w.heap.size, 0, none⟩) hl).trans r0, (ht.below.cell (p := ⟨w.heap.size, 1, none⟩) hl).trans r1, (ht.below.frozen (p := ⟨w.heap.size, 0, none⟩) hl).trans r2, (ht.below.frozen (p := ⟨w.heap.size, 1, none⟩) hl).trans r3⟩
    exact ⟨hr2.below hb2, by simp [go_sem], by simp [go_sem], ho.below hb2, by omega, by omega, hq2, Nat.le_refl _, hs.below (hb2.mono (by omega)), (HB1.out.trans (ht.below.mono (by omega))).trans (hb2.mono (by omega))⟩
  obtain ⟨gb, hgb⟩ : ∃ b, b = w2.heap.size := ⟨_, rfl⟩
  obtain ⟨w3, hw3⟩ : ∃ z, z = w2.alloc (.cells #[.int .i64 x, .slice (some ⟨q, 0, none⟩) n c] 41) := ⟨_, rfl⟩
  have hgl : gb < w3.heap.size := by rw [hw3, hgb]; simp
  rw [← hw3, ← hgb] at HDS
  have HW3 := Lib.hid hw3.symm
  have HGb := Lib.hid hgb.symm
  clear ho hs ht hw3 hgb hq1 hq2 hgz HR1
  go_upto_region 3 with fail
  rw [HW3.out, HGb.out]
  clear HW3 HGb
  have hgB : w.heap.size + 1 < w3.heap.size := by have := HDS.out.gB; have := HDS.out.Bq; have := (HDS.out.own.lt (k := q) rfl).1; omega
  have HO4 : Hid (Own (w3.alloc (.cells #[] 2)) w3.heap.size (.slice (some ⟨w3.heap.size, 0, none⟩) 0 0) []) := own_lit0 w3 _ (Nat.le_refl _)
  have HD4 : Hid (DS (w.heap.size + 1) w.heap.size gb w1.heap.size w (w3.alloc (.cells #[] 2)) x q n c l) := HDS.out.base hgl (b_alloc w3 _)
  clear HDS
  obtain ⟨N, rfl⟩ : ∃ N : Nat, x = (N : Int) := ⟨x.toNat, by omega⟩
  have hN11 : N ≤ 11 := by omega
  go_wp2
  go_loopw [8, 9] (fun lv kv wr => ∃ (k : Nat) (b : Option Addr) (cc : Nat) (S : List Int), k ≤ N ∧ w3.heap.size ≤ wr.heap.size ∧ kv = .int .i64 k ∧ lv = .slice b k cc ∧ Hid (Own wr w3.heap.size (.slice b k cc) S) ∧ Hid (DS (w.heap.size + 1) w.heap.size gb w1.heap.size w wr N q n c l)) (fun _ kv _ => N - (intOf kv).toNat)
  case atStart => exact ⟨0, _, _, _, Nat.zero_le _, by simp, rfl, rfl, HO4, HD4⟩
  case round =>
    obtain ⟨k, b, cc, S, hk, hzo, rfl, rfl, HO, HD⟩ := hrel
    obtain ⟨wo, rfl⟩ : ∃ x, x = wr := ⟨_, rfl⟩
    clear HO4 HD4
    have hev := HD.out.ev
    have HSl : Hid (S.length = k) := HO.out.len.symm
    by_cases hkl : k < N
    · have hki : (k : Int) < (N : Int) := by omega
      go_wp2_with fail
      refine (next _ _ _ (by decide) HD.out.src).mono ?_
      rintro z w5 ⟨u, rfl, hu1, hu2, hs, ht⟩
      have HD5 := Lib.hid (HD.out.step hs ht)
      have HO5 := Lib.hid (HO.out.thrS ht hgB)
      have wfu : (Lit.int .i64 u).wf = true := wf_small _ (by omega) (by omega)
      have hg5 : w3.heap.size ≤ w5.heap.size := Nat.le_trans hzo ht.below.size
      have HCp := Lib.hid (pickB (fun _ => True) (w.heap.size + 1) w5.heap.size 0 2 2 (w5.alloc (.cells #[.int .i64 0, .int .i64 u] 2)) (HD5.out.src.alloc _) (by omega) (by omega) (by omega) (fun j hj => by
        have hj2 : j = 0 ∨ j = 1 := by omega
        rcases hj2 with rfl | rfl
        · exact ⟨0, trivial, by simp [go_sem]⟩
        · exact ⟨u, trivial, by simp [go_sem]⟩))
      have HDa := Lib.hid (HD5.out.base (B2 := w3.heap.size) hgl ((b_alloc w5 (.cells #[.int .i64 0, .int .i64 u] 2)).mono hg5))
      have HOa := Lib.hid (HO5.out.below (b_alloc w5 (.cells #[.int .i64 0, .int .i64 u] 2)))
      clear hs ht HO HD hev hu1 hu2 HD5 HO5
      go_wp2_with fail
      refine (HCp.out).mono ?_
      rintro z w6 ⟨v, rfl, -, hs, ht⟩
      have HD6 := Lib.hid (HDa.out.step hs ht)
      have HO6 := Lib.hid (HOa.out.thrS ht hgB)
      have hg6 : w3.heap.size ≤ w6.heap.size := by have := ht.below.size; simp at this; omega
      clear hs ht HDa HOa HCp
      go_wp2_with (at_builtin; refine append1 _ rfl (.tmp 24) (.tmp 30) rfl w3.heap.size _ _ _ k HSl.out rfl HO6.out rfl (by rw [HSl.out]; omega) hg6 ?_)
      intro b2 c2' w7 hO2 hb2 _
      have HO7 := Lib.hid hO2
      have HD7 := Lib.hid (HD6.out.base hgl hb2)
      have hg7 : w3.heap.size ≤ w7.heap.size := Nat.le_trans hg6 hb2.size
      clear hO2 hb2
      go_wp2
      go_roundw
      case rel => exact ⟨k + 1, _, _, _, by omega, hg7, by go_num, rfl, HO7, HD7⟩
      case measure => simp [intOf]; omega
    · obtain rfl : k = N := by omega
      go_wp2_with fail
      refine (next _ _ _ (by decide) HD.out.src).mono ?_
      rintro z w5 ⟨cs, rfl, -, -, hs, ht⟩
      have HD5 := Lib.hid (HD.out.step hs ht)
      have HO5 := Lib.hid (HO.out.thrS ht hgB)
      have hg5 : w3.heap.size ≤ w5.heap.size := Nat.le_trans hzo ht.below.size
      clear hs ht HO HD hev
      by_cases h0 : cs = 0
      · subst h0
        go_wp2_with (at_builtin; refine append1 _ rfl (.tmp 36) (.tmp 37) rfl w3.heap.size _ _ _ k HSl.out rfl HO5.out rfl (by rw [HSl.out]; omega) hg5 ?_)
        intro b2 c2' w7 hO2 hb2 _
        have HO7 := Lib.hid hO2
        have HD7 := Lib.hid (HD5.out.base hgl hb2)
        clear hO2 hb2
        obtain ⟨r0, r1, r2, r3⟩ := HD7.out.res
        have hev := HD7.out.ev
        have hpl := HD7.out.pl
        have hrl : w.heap.size < w7.heap.size := cell_lt r0
        have hqB := (HD7.out.own.lt (k := q) rfl).1
        have hkp : ∀ z, z ≠ w.heap.size → ((w7.setCell ⟨w.heap.size, 0, none⟩ (.int .i64 k)).setCell ⟨w.heap.size, 1, none⟩ (.slice (some ⟨q, 0, none⟩) n c)).heap[z]? = w7.heap[z]? := fun z hz => (Below.heap_setCell _ _ _ _ (by show z ≠ w.heap.size; omega)).trans (Below.heap_setCell _ _ _ _ (by show z ≠ w.heap.size; omega))
        have HFp : Hid (Pls ((w7.setCell ⟨w.heap.size, 0, none⟩ (.int .i64 k)).setCell ⟨w.heap.size, 1, none⟩ (.slice (some ⟨q, 0, none⟩) n c)) (some ⟨q, 0, none⟩) n l) := (HD7.out.own.keepB fun z hq => hkp z (by simp [Value.ownBlock] at hq; have := HD7.out.gB; omega)).pls
        have HFi : Hid (Ints .i64 ((w7.setCell ⟨w.heap.size, 0, none⟩ (.int .i64 k)).setCell ⟨w.heap.size, 1, none⟩ (.slice (some ⟨q, 0, none⟩) n c)) b2 (k + 1) _) := (HO7.out.keep fun z k1 _ => hkp z (by omega)).ints'
        have HFb := Lib.hid ((HD7.out.bel.setCell (p := ⟨w.heap.size, 0, none⟩) (Nat.le_refl _) (.int .i64 k)).setCell (p := ⟨w.heap.size, 1, none⟩) (Nat.le_refl _) (.slice (some ⟨q, 0, none⟩) n c))
        clear hkp
        go_wp2
        exact bodyPost_ret (v := .tuple #[.agg #[.int .i64 k, .slice (some ⟨q, 0, none⟩) n c], .int .i64 y, .slice b2 (k + 1) c2']) (by simp [results, Try.results56, go_sem, r0, r1, hrl]) rfl ⟨_, _, _, _, _, _, _, _, _, _, rfl, HFp.out, HFi.out, hn60, by omega, HFb.out⟩
      · have h0b : (cs == 0) = false := by simpa using h0
        by_cases h1 : cs = 1
        · subst h1
          by_cases hk0 : 0 < k
          · have hki : (k : Int) > 0 := by omega
            obtain ⟨a', c', hv, -, -, hgx⟩ := own_form HO5.out
            injection hv with v1 v2 v3
            subst v1 v3
            obtain ⟨gq, rfl, hgq1, hgq2⟩ := hgx (by omega)
            have HCp := Lib.hid (pickB (fun _ => True) (w.heap.size + 1) w5.heap.size 0 3 3 (w5.alloc (.cells #[.int .i64 (-1), .int .i64 1000000, .int .i64 1000001] 2)) (HD5.out.src.alloc _) (by omega) (by omega) (by omega) (fun j hj => by
              have hj2 : j = 0 ∨ j = 1 ∨ j = 2 := by omega
              rcases hj2 with rfl | rfl | rfl
              · exact ⟨-1, trivial, by simp [go_sem]⟩
              · exact ⟨1000000, trivial, by simp [go_sem]⟩
              · exact ⟨1000001, trivial, by simp [go_sem]⟩))
            have HDa := Lib.hid (HD5.out.base (B2 := w3.heap.size) hgl ((b_alloc w5 (.cells #[.int .i64 (-1), .int .i64 1000000, .int .i64 1000001] 2)).mono hg5))
            have HOa := Lib.hid (HO5.out.below (b_alloc w5 (.cells #[.int .i64 (-1), .int .i64 1000000, .int .i64 1000001] 2)))
            clear HD5 HO5 v2
            go_wp2_with fail
            refine (HCp.out).mono ?_
            rintro z w6 ⟨v, rfl, -, hs, ht⟩
            have HD6 := Lib.hid (HDa.out.step hs ht)
            have HO6 := Lib.hid (HOa.out.thrS ht hgB)
            clear hs ht HDa HOa HCp
            have hc0 := HO6.out.cellAt 0 hk0
            have hf0 := HO6.out.frozenAt 0
            have HO7 := Lib.hid (HO6.out.set 0 v)
            have HD7 := Lib.hid (HD6.out.base (B2 := w3.heap.size) hgl ((Below.refl _ w6).setCell (p := ⟨gq, 0, none⟩) hgq1 (.int .i64 v)))
            obtain ⟨w7, hw7⟩ : ∃ z, z = w6.setCell ⟨gq, 0, none⟩ (.int .i64 v) := ⟨_, rfl⟩
            rw [← hw7] at HO7 HD7
            have HW7 := Lib.hid hw7.symm
            clear hw7
            go_upto_region 14 with fail
            rw [HW7.out]
            clear HW7 hc0 hf0
            obtain ⟨r0, r1, r2, r3⟩ := HD7.out.res
            have hev := HD7.out.ev
            have hpl := HD7.out.pl
            have hrl : w.heap.size < w7.heap.size := cell_lt r0
            have hqB := (HD7.out.own.lt (k := q) rfl).1
            have hkp : ∀ z, z ≠ w.heap.size → ((w7.setCell ⟨w.heap.size, 0, none⟩ (.int .i64 k)).setCell ⟨w.heap.size, 1, none⟩ (.slice (some ⟨q, 0, none⟩) n c)).heap[z]? = w7.heap[z]? := fun z hz => (Below.heap_setCell _ _ _ _ (by show z ≠ w.heap.size; omega)).trans (Below.heap_setCell _ _ _ _ (by show z ≠ w.heap.size; omega))
            have HFp : Hid (Pls ((w7.setCell ⟨w.heap.size, 0, none⟩ (.int .i64 k)).setCell ⟨w.heap.size, 1, none⟩ (.slice (some ⟨q, 0, none⟩) n c)) (some ⟨q, 0, none⟩) n l) := (HD7.out.own.keepB fun z hq => hkp z (by simp [Value.ownBlock] at hq; have := HD7.out.gB; omega)).pls
            have HFi : Hid (Ints .i64 ((w7.setCell ⟨w.heap.size, 0, none⟩ (.int .i64 k)).setCell ⟨w.heap.size, 1, none⟩ (.slice (some ⟨q, 0, none⟩) n c)) (some ⟨gq, 0, none⟩) (k) _) := (HO7.out.keep fun z k1 _ => hkp z (by omega)).ints'
            have HFb := Lib.hid ((HD7.out.bel.setCell (p := ⟨w.heap.size, 0, none⟩) (Nat.le_refl _) (.int .i64 k)).setCell (p := ⟨w.heap.size, 1, none⟩) (Nat.le_refl _) (.slice (some ⟨q, 0, none⟩) n c))
            clear hkp
            go_wp2
            exact bodyPost_ret (v := .tuple #[.agg #[.int .i64 k, .slice (some ⟨q, 0, none⟩) n c], .int .i64 y, .slice (some ⟨gq, 0, none⟩) (k) cc]) (by simp [results, Try.results56, go_sem, r0, r1, hrl]) rfl ⟨_, _, _, _, _, _, _, _, _, _, rfl, HFp.out, HFi.out, hn60, by omega, HFb.out⟩
          · have hki : ¬ (k : Int) > 0 := by omega
            obtain ⟨r0, r1, r2, r3⟩ := HD5.out.res
            have hev := HD5.out.ev
            have hpl := HD5.out.pl
            have hrl : w.heap.size < w5.heap.size := cell_lt r0
            have hqB := (HD5.out.own.lt (k := q) rfl).1
            have hkp : ∀ z, z ≠ w.heap.size → ((w5.setCell ⟨w.heap.size, 0, none⟩ (.int .i64 k)).setCell ⟨w.heap.size, 1, none⟩ (.slice (some ⟨q, 0, none⟩) n c)).heap[z]? = w5.heap[z]? := fun z hz => (Below.heap_setCell _ _ _ _ (by show z ≠ w.heap.size; omega)).trans (Below.heap_setCell _ _ _ _ (by show z ≠ w.heap.size; omega))
            have HFp : Hid (Pls ((w5.setCell ⟨w.heap.size, 0, none⟩ (.int .i64 k)).setCell ⟨w.heap.size, 1, none⟩ (.slice (some ⟨q, 0, none⟩) n c)) (some ⟨q, 0, none⟩) n l) := (HD5.out.own.keepB fun z hq => hkp z (by simp [Value.ownBlock] at hq; have := HD5.out.gB; omega)).pls
            have HFi : Hid (Ints .i64 ((w5.setCell ⟨w.heap.size, 0, none⟩ (.int .i64 k)).setCell ⟨w.heap.size, 1, none⟩ (.slice (some ⟨q, 0, none⟩) n c)) b (k) _) := (HO5.out.keep fun z k1 _ => hkp z (by omega)).ints'
            have HFb := Lib.hid ((HD5.out.bel.setCell (p := ⟨w.heap.size, 0, none⟩) (Nat.le_refl _) (.int .i64 k)).setCell (p := ⟨w.heap.size, 1, none⟩) (Nat.le_refl _) (.slice (some ⟨q, 0, none⟩) n c))
            clear hkp
            go_wp2
            exact bodyPost_ret (v := .tuple #[.agg #[.int .i64 k, .slice (some ⟨q, 0, none⟩) n c], .int .i64 y, .slice b (k) cc]) (by simp [results, Try.results56, go_sem, r0, r1, hrl]) rfl ⟨_, _, _, _, _, _, _, _, _, _, rfl, HFp.out, HFi.out, hn60, by omega, HFb.out⟩
        · have h1b : (cs == 1) = false := by simpa using h1
          obtain ⟨r0, r1, r2, r3⟩ := HD5.out.res
          have hev := HD5.out.ev
          have hpl := HD5.out.pl
          have hrl : w.heap.size < w5.heap.size := cell_lt r0
          have hqB := (HD5.out.own.lt (k := q) rfl).1
          have hkp : ∀ z, z ≠ w.heap.size → ((w5.setCell ⟨w.heap.size, 0, none⟩ (.int .i64 k)).setCell ⟨w.heap.size, 1, none⟩ (.slice (some ⟨q, 0, none⟩) n c)).heap[z]? = w5.heap[z]? := fun z hz => (Below.heap_setCell _ _ _ _ (by show z ≠ w.heap.size; omega)).trans (Below.heap_setCell _ _ _ _ (by show z ≠ w.heap.size; omega))
          have HFp : Hid (Pls ((w5.setCell ⟨w.heap.size, 0, none⟩ (.int .i64 k)).setCell ⟨w.heap.size, 1, none⟩ (.slice (some ⟨q, 0, none⟩) n c)) (some ⟨q, 0, none⟩) n l) := (HD5.out.own.keepB fun z hq => hkp z (by simp [Value.ownBlock] at hq; have := HD5.out.gB; omega)).pls
          have HFi : Hid (Ints .i64 ((w5.setCell ⟨w.heap.size, 0, none⟩ (.int .i64 k)).setCell ⟨w.heap.size, 1, none⟩ (.slice (some ⟨q, 0, none⟩) n c)) b (k) _) := (HO5.out.keep fun z k1 _ => hkp z (by omega)).ints'
          have HFb := Lib.hid ((HD5.out.bel.setCell (p := ⟨w.heap.size, 0, none⟩) (Nat.le_refl _) (.int .i64 k)).setCell (p := ⟨w.heap.size, 1, none⟩) (Nat.le_refl _) (.slice (some ⟨q, 0, none⟩) n c))
          clear hkp
          go_wp2
          exact bodyPost_ret (v := .tuple #[.agg #[.int .i64 k, .slice (some ⟨q, 0, none⟩) n c], .int .i64 y, .slice b (k) cc]) (by simp [results, Try.results56, go_sem, r0, r1, hrl]) rfl ⟨_, _, _, _, _, _, _, _, _, _, rfl, HFp.out, HFi.out, hn60, by omega, HFb.out⟩
end V
end Go.Proofs.Ytjbffpmelglegaa
