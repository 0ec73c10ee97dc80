/- Texts laid together: Apply, Gr2, It5, Clo3. -/
import Derived.Test.YtobdgboejbbfiaaRows
import Derived.Test.YtobdgboejbbfiaaQa1
import Derived.Test.YtobdgboejbbfiaaQa3
import Derived.WalkKit
import Derived.ProofKit
import Derived.WalkSmall
import Derived.Deep.QuietTactic
import Derived.BigQuiet
import Derived.BigRegion
import Derived.Deep.Draws
import Derived.Lib.Hide
import Derived.OpenShut
import Derived.Deep.OwnRows
import Derived.Test.YtobdgboejbbfiaaQa4
import Derived.Test.YtobdgboejbbfiaaQa5
import Derived.StillTailTactics
import Derived.Test.YtobdgboejbbfiaaQa7
import Derived.WalkMore
import Derived.Deep.LoopGhost
import Derived.Scope
set_option linter.unusedSimpArgs false
set_option linter.unusedVariables false
set_option linter.unusedSectionVars false
namespace Go.Proofs.Ytobdgboejbbfiaa.V
open Go.RowKit

/-- A new vector and a code. -/
def VRes (r : List Int × Int) (w : World) (e : Ending) (w' : World) : Prop :=
  ∃ a n cap, e = .returned (.tuple #[.slice a n cap, .int .i64 r.2]) ∧ Own w' w.heap.size (.slice a n cap) r.1 ∧ Below w.heap.size w w'
theorem VRes.nil {r : List Int × Int} {c : Int} {w w' : World} (hr : r = ([], c)) (hb : Below w.heap.size w w') : VRes r w (.returned (.tuple #[.slice none 0 0, .int .i64 c])) w' := by
  subst hr
  exact ⟨none, 0, 0, rfl, own_nil _ _, hb⟩

theorem ints_vec {w : World} {a : Option Addr} {n : Nat} {l : List Int} (h : Ints .i64 w a n l) (hv : M.isVec l = true) : 1 ≤ n ∧ n ≤ 10 := by
  obtain ⟨h1, h2, -⟩ := M.isVec_t hv
  rw [h.1] at h1 h2
  exact ⟨h1, h2⟩
theorem isVector_b (a : Option Addr) (n cap : Nat) (l : List Int) (w : World) (b : Bool) (hb : M.isVec l = b) (h : Ints .i64 w a n l) :
    Calls Try.prog 154 #[.slice a n cap] w fun e w' => e = .returned (.bool b) ∧ w = w' := by
  subst hb
  exact isVector _ _ _ _ _ h

/-- A matrix of one row that is not its own. -/
theorem mat_one (w : World) (a : Option Addr) (n cap : Nat) (l : List Int) (h : Ints .i64 w a n l) : Mat (w.alloc (.cells #[.slice a n cap] 28)) (some ⟨w.heap.size, 0, none⟩) 1 [l] := by
  refine ⟨rfl, by decide, .inr ⟨_, _, rfl, by simp, fun i hi => ?_⟩⟩
  obtain rfl : i = 0 := by omega
  have hc := cell_one_new w (.slice a n cap) 28 0 _ rfl
  refine ⟨a, cap, ?_, ?_⟩
  · show _ = some (Value.slice a l.length cap)
    rw [h.1]; exact hc
  · show Ints _ _ _ l.length l
    rw [h.1]; exact h.below (b_alloc w _)

/-- The first row of an owned matrix. -/
theorem OwnM.row0 {w : World} {B n cap : Nat} {a : Option Addr} {R : List (List Int)} (h : OwnM w B (.slice a n cap) R) (hn : 0 < n) :
    ∃ g ra rc, a = some ⟨g, 0, none⟩ ∧ w.cell? ⟨g, 0, none⟩ = some (.slice ra (R.getD 0 []).length rc) ∧ Own w B (.slice ra (R.getD 0 []).length rc) (R.getD 0 []) := by
  have hl := h.len
  obtain ⟨V, h1, h2, h3, h4, h5⟩ := h
  obtain ⟨a', c', hv, hc, hm, hg⟩ := own_form h2
  injection hv with e1 e2 e3
  subst e1 e2 e3
  obtain ⟨g, rfl, hB, hlt⟩ := hg (by omega)
  have hr := h3 0 (by omega)
  obtain ⟨ra, rc, hrv, _⟩ := own_form hr
  rw [hrv] at hr
  refine ⟨g, ra, rc, rfl, ?_, hr⟩
  rw [World.ownsRow.cellAt h2 0 (by omega), ← hrv]
  simp [show 0 < V.length by omega]

/-- The column of a vector. -/
def M.colM (l : List Int) (n : Nat) : List (List Int) := M.mk n 1 (fun i _ => l.getD i 0)
theorem M.colM_ok {l : List Int} {n : Nat} (hv : M.isVec l = true) (hl : l.length = n) : M.isMat (M.colM l n) = true := by
  obtain ⟨h1, h2, h3⟩ := M.isVec_t hv
  exact M.isMat_mk (by omega) (by omega) (Nat.le_refl _) (by omega) (fun i hi _ _ => h3 i (by omega))
theorem M.dot_col {R : List (List Int)} {l : List Int} {n i k : Nat} (hk : k ≤ n) : M.dot R (M.colM l n) i 0 k = M.dotV R l i k := by
  unfold M.dot M.dotV
  refine M.sumN_congr fun t ht => ?_
  rw [M.colM, M.ent_mk _ _ _ _ _ (by omega) (by omega)]







end Go.Proofs.Ytobdgboejbbfiaa.V

namespace Go.Proofs.Ytobdgboejbbfiaa
namespace V
open Go.RowKit
theorem rlit (w : World) (B : Nat) (x : Int) (h : B ≤ w.heap.size) : Own (w.alloc (.cells #[.int .i64 x] 2)) B (.slice (some ⟨w.heap.size, 0, none⟩) 1 1) [x] := World.ownsRow_lit w #[.int .i64 x] 1 h (by decide) rfl
set_option maxRecDepth 100000 in
set_option maxHeartbeats 1000000 in
theorem sOver (a : Option Addr) (n cap : Nat) (R : List (List Int)) (over : Int) (w : World) (h : Sq w a n R) :
    Calls Try.prog 121 #[.slice a n cap, .int .i64 over] w fun e w' => ∃ b' n' c', e = .returned (.slice b' n' c') ∧ Own w' w.heap.size (.slice b' n' c') (M.overL (M.ent R) n over) ∧ Below w.heap.size w w' := by
  have HS := Lib.hid h
  have hn10 := h.2.2.2.2
  obtain ⟨g, hg⟩ : ∃ g : Nat → List Int, g = fun v : Nat => M.grow (M.ent R) n over n [(v : Int)] 0 := ⟨_, rfl⟩
  have HG : Hid (M.overL (M.ent R) n over = M.pick g n 0) := by show _ = _; rw [hg]; rfl
  have HGg : Hid (∀ v : Nat, g v = M.grow (M.ent R) n over n [(v : Int)] 0) := fun v => by rw [hg]
  clear h hg
  go_enter Try.func121, Try.ntmps121
  go_wp2
  go_loopw [5, 6] (fun v _ wr => ∃ k : Nat, k ≤ n ∧ v = .int .i64 k ∧ Hid (M.pick g n 0 = M.pick g (n - k) k) ∧ Below w.heap.size w wr) (fun v _ _ => n - (intOf v).toNat)
  case atStart => exact ⟨0, Nat.zero_le _, rfl, rfl, Below.refl _ _⟩
  case round =>
    obtain ⟨k, hk2, rfl, HK, hb⟩ := hrel
    have HB1 := Lib.hid hb
    have hz1 : w.heap.size ≤ wr.heap.size := hb.size
    clear hb
    by_cases hk : k < n
    · have hki : (k : Int) < (n : Int) := by omega
      obtain ⟨t, ht⟩ : ∃ t, t = M.grow (M.ent R) n over n [(k : Int)] 0 := ⟨_, rfl⟩
      have HTt := Lib.hid ht
      have HGk : Hid (g k = t) := (HGg.out k).trans ht.symm
      have HN2 : Hid (M.nodesB n [(k : Int)] = true) := by show _ = _; unfold M.nodesB; simp [M.inN]; omega
      have HD2 : Hid (M.diffB [(k : Int)] = true) := M.diffB_of (fun i hi => by
        simp at hi; subst hi; rfl)
      have HLit := Lib.hid (rlit wr w.heap.size (k : Int) hz1)
      have HSl := Lib.hid (HS.out.below (HB1.out.alloc hz1 (.cells #[.int .i64 (k : Int)] 2)))
      clear ht
      go_wp2_with fail
      refine (sGrow _ _ _ R over n _ 1 _ [(k : Int)] 0 w.heap.size _ HSl.out HLit.out HN2.out HD2.out (by omega) (by omega) (by omega) (by omega) (by simp; omega)).mono ?_
      rintro e w3 ⟨b3, n3, c3, rfl, ho, hb⟩
      rw [← HTt.out] at ho
      have hlt := ho.len
      have HO3 := Lib.hid ho
      have HBz := Lib.hid ((HB1.out.alloc hz1 (.cells #[.int .i64 (k : Int)] 2)).trans (hb.mono (by simp; omega)))
      clear ho hb
      by_cases hn3 : n3 = 0
      · subst hn3
        have HKn : Hid (M.pick g n 0 = M.pick g (n - (k + 1)) (k + 1)) := HK.out.trans (M.pick_no hk (by rw [HGk.out]; exact hlt.symm))
        clear hlt
        go_wp2
        go_roundw
        case rel => exact ⟨k + 1, by omega, by go_num, HKn, HBz.out⟩
        case measure => simp [intOf]; omega
      · have HE : Hid (M.overL (M.ent R) n over = t) := HG.out.trans (HK.out.trans ((M.pick_yes hk (by rw [HGk.out]; omega)).trans HGk.out))
        have hn3p : 0 < n3 := by omega
        clear hlt
        go_wp2
        go_ret
        exact ⟨_, _, _, rfl, by rw [HE.out]; exact HO3.out, HBz.out⟩
    · obtain rfl : k = n := by omega
      have HE : Hid (M.overL (M.ent R) k over = []) := HG.out.trans (HK.out.trans M.pick_end)
      go_wp2
      go_ret
      exact ⟨_, _, _, rfl, by rw [HE.out]; exact own_nil _ _, HB1.out⟩
end V
end Go.Proofs.Ytobdgboejbbfiaa

namespace Go.Proofs.Ytobdgboejbbfiaa.V
open Go Go.RowKit Go.Shelf
attribute [local go_sem] Oper.semAt_some

theorem own_head {w : World} {B n c : Nat} {b : Option Addr} {p : List Int} (h : Own w B (.slice b n c) p) (hn : 0 < p.length) : ∃ g, b = some ⟨g, 0, none⟩ ∧ B ≤ g := by
  obtain ⟨a', c', hv, -, -, hg⟩ := own_form h
  injection hv with e1 e2 e3
  obtain ⟨g, h1, h2, -⟩ := hg hn
  exact ⟨g, by rw [e1]; exact h1, h2⟩

set_option maxRecDepth 100000 in
set_option maxHeartbeats 4000000 in
theorem smallestCycle (a : Option Addr) (n cap : Nat) (R : List (List Int)) (ov : Int) (w0 : World) (hq : Sq w0 a n R) :
    Calls Try.prog 119 #[.slice a n cap, .int .i64 (ov + 1)] w0 fun e w' => ∃ b n' c', e = .returned (.slice b n' c') ∧ Own w' w0.heap.size (.slice b n' c') (M.overL (M.ent R) n ov) ∧ Below w0.heap.size w0 w' := by
  obtain ⟨w, hwd⟩ : ∃ w, w = w0.alloc (.cells #[.int .i64 (ov + 1)] 2) := ⟨_, rfl⟩
  have HQ : Hid (Sq w a n R) := by rw [hwd]; exact hq.below (b_alloc _ _)
  have HW0 : Hid (Below w0.heap.size w0 w) := by rw [hwd]; exact b_alloc _ _
  have hLx : w.heap.size = w0.heap.size + 1 := by rw [hwd]; simp
  have HLC : Hid (w.cell? ⟨w0.heap.size, 0, none⟩ = some (.int .i64 (ov + 1))) := by show _ = _; rw [hwd]; simp
  have hn10 := HQ.out.2.2.2
  clear hq
  refine callsIn_wide.1 (callsIn_of_wp_marks (n := 3) Try.func119 rfl trivial (wpIn_wide.2 ?_) rfl)
  simp only [Try.ntmps119, List.size_toArray, List.length_cons, List.length_nil, Nat.reduceAdd, Nat.reduceSub, Array.replicate_succ, Array.replicate_zero, List.push_toArray, List.append_toArray, List.nil_append, List.cons_append]
  go_wp2
  rw [← hwd]
  clear hwd
  go_step3
  go_wp2
  obtain ⟨Lx, hLxd⟩ : ∃ Lx, Lx = w0.heap.size := ⟨_, rfl⟩
  rw [← hLxd] at hLx HLC ⊢
  clear hLxd
  obtain ⟨Bx, hBx'⟩ : ∃ Bx, Bx = Lx + 1 := ⟨_, rfl⟩
  have hBx : Bx = w.heap.size := by rw [hBx', hLx]
  have hlo : w.heap.size ≤ Bx := by omega
  obtain ⟨gg, hgg⟩ : ∃ gg : Nat → List Int, gg = fun (v : Nat) => M.grow (M.ent R) n ov n [(v : Int)] 0 := ⟨_, rfl⟩
  have HGG := Lib.hid hgg
  have hov : M.overL (M.ent R) n ov = M.pick gg (n - 0) 0 := by rw [hgg]; rfl
  have hcb : (w.alloc (.cells #[.slice none 0 0] 28)).cell? ⟨Bx, 0, none⟩ = some (.slice none 0 0) := by rw [hBx]; simp
  have hfb : (w.alloc (.cells #[.slice none 0 0] 28)).frozen? ⟨Bx, 0, none⟩ = false := by rw [hBx]; simp
  have hbb : Below w.heap.size w (w.alloc (.cells #[.slice none 0 0] 28)) := b_alloc _ _
  rw [← hBx']
  clear hgg hBx hBx'
  go_step3
  go_wp2
  refine wp_loop_ghost_k (fun m a' w' => ∃ (k : Nat) (Ds : List Nat) (u6 u7 u8 u12 u13 u14 u15 u16 u17 u18 u19 u20 u21 u22 u23 u24 u25 : Value), k ≤ n ∧ m = n - k ∧ a' = { tmps := #[.slice a n cap, .int .i64 (ov + 1), undef, .pointer (some ⟨Lx, 0, none⟩), .slice none 0 0, .pointer (some ⟨Bx, 0, none⟩), u6, u7, u8, .slice a n cap, .int .i64 n, .int .i64 k, u12, u13, u14, u15, u16, u17, u18, u19, u20, u21, u22, u23, u24, u25], defers := Ds.map mark } ∧ Marks w.heap.size Ds w' ∧ Below w.heap.size w w' ∧ w'.cell? ⟨Bx, 0, none⟩ = some (.slice none 0 0) ∧ w'.frozen? ⟨Bx, 0, none⟩ = false ∧ Hid (M.overL (M.ent R) n ov = M.pick gg (n - k) k)) n ⟨0, [], _, _, _, _, _, _, _, _, _, _, _, _, _, _, _, _, _, Nat.zero_le _, rfl, rfl, Marks.nil _ _, hbb, hcb, hfb, hov⟩ ?_
  clear hcb hfb hbb hov
  intro m a' w' hI J K hJ hK
  obtain ⟨k, Ds, u6, u7, u8, u12, u13, u14, u15, u16, u17, u18, u19, u20, u21, u22, u23, u24, u25, hk, rfl, rfl, hMk, hBl, hcb, hfb, HP⟩ := hI
  by_cases hlt : k < n
  · have hki : (k : Int) < (n : Int) := by omega
    have HJ := Lib.hid hJ
    have HK := Lib.hid hK
    have HMk := Lib.hid hMk
    have HBl := Lib.hid hBl
    clear hJ hK hMk hBl
    go_wp2_with (go_at_call 139; refine (cyclesFrom_ _ _ _ ⟨_, _, _, rfl⟩).mono ?_; rintro e2 w2 ⟨rfl, rfl⟩)
    obtain ⟨Ba, hBa⟩ : ∃ Ba, Ba = w'.heap.size := ⟨_, rfl⟩
    have hlt1 : Bx < w'.heap.size := cell_lt hcb
    obtain ⟨w2, hw2⟩ : ∃ w2, w2 = ((w'.alloc (.cells #[.slice a n cap] 72)).alloc (.cells #[.int .i64 k] 2)) := ⟨_, rfl⟩
    have hbw : Below w'.heap.size w' w2 := by rw [hw2]; exact ((Below.refl _ _).alloc (Nat.le_refl _) _).alloc (by simp) _
    have hsz2 : w2.heap.size = Ba + 2 := by rw [hw2, hBa]; simp
    have hca : w2.cell? ⟨Ba, 0, none⟩ = some (.slice a n cap) := by
      rw [hw2, hBa, World.cell?_alloc_old _ _ _ (by simp)]; simp
    have hcf : w2.cell? ⟨Ba + 1, 0, none⟩ = some (.int .i64 k) := by
      have h := World.alloc_heap_new (w'.alloc (.cells #[.slice a n cap] 72)) (.cells #[.int .i64 k] 2)
      rw [World.size_alloc] at h
      rw [hw2, hBa]
      simp only [World.cell?, h]
      rfl
    rw [← hw2, ← hBa]
    have hcb2 := (hbw.cell (p := ⟨Bx, 0, none⟩) hlt1).trans hcb
    have hfb2 := (hbw.frozen (p := ⟨Bx, 0, none⟩) hlt1).trans hfb
    have HM2 : Hid (Marks w.heap.size Ds w2) := HMk.out.keep (Bx := Bx) hcb (Nat.le_refl _) (fun q hq _ => hbw.block q hq)
    have HB2 : Hid (Below w.heap.size w w2) := HBl.out.trans (hbw.mono HBl.out.size)
    have HQ2 : Hid (Sq w2 a n R) := HQ.out.below HB2.out
    have hltB : Bx < w2.heap.size := by rw [hsz2, hBa]; omega
    have hz2 : w.heap.size ≤ w2.heap.size := HB2.out.size
    have hBa2 : Ba + 1 < w2.heap.size := by omega
    clear hw2 hbw hcb hfb hBa hlt1 hsz2
    refine (wpIn_wide (n := 3)).1 ?_
    refine rangeState (gf := 159) (lb := #[.pointer (some ⟨Ba, 0, none⟩), .pointer (some ⟨Ba + 1, 0, none⟩)]) rfl (enters_of Try.func159 (by kernel_rfl) rfl) (PreC ov (w2.heap.size + 2) (gg k)) ?hps (GoC ov)
      (fun id _ W A => id = 0 ∧ (∃ g L c, A.cell? ⟨Bx, 0, none⟩ = some (.slice (some ⟨g, 0, none⟩) L c) ∧ Own A W.heap.size (.slice (some ⟨g, 0, none⟩) L c) (gg k) ∧ (gg k).length ≠ 0) ∧ Below w.heap.size w A ∧ (w2.heap.size ≤ A.heap.size ∧ w2.heap.size + 2 ≤ W.heap.size) ∧ ∀ q, q < w2.heap.size → q ≠ Bx → A.heap[q]? = w2.heap[q]?)
      ((gg k).length = 0) ?hMove ?hiter (fun x => match x.toList with | [p, q] => { tmps := #[.slice a n cap, .int .i64 (ov + 1), undef, .pointer (some ⟨Lx, 0, none⟩), .slice none 0 0, .pointer (some ⟨Bx, 0, none⟩), .int .i64 k, p, q, .slice a n cap, .int .i64 n, .int .i64 k, .bool true, .int .i64 k, .slice a n cap, .int .i64 k, .func (.func 159) #[] #[.pointer (some ⟨Ba, 0, none⟩), .pointer (some ⟨Ba + 1, 0, none⟩)], p, q, u19, u20, u21, u22, u23, u24, u25], defers := [] } | _ => { tmps := #[], defers := [] }) ?hassign ?hbody ?hdone ?hstop
    case hps => rintro x W ⟨b, L, c, p, wt, rfl, -⟩; rfl
    case hMove =>
      rintro id x W A B q ⟨rfl, ⟨g, L, c, h1, h2, h3⟩, h4, ⟨h6, h7⟩, h5⟩ hch hq
      have hg : W.heap.size ≤ g ∧ g < A.heap.size := own_lt h2 rfl
      refine ⟨rfl, ⟨g, L, c, ?_, ownsRow_keep h2 (fun r hr => ?_), h3⟩, ?_, ⟨Nat.le_trans h6 hch.2.2.2.1, h7⟩, ?_⟩
      · rw [World.cell?_of_block (w := A) (w' := B) (a := ⟨Bx, 0, none⟩) (hch.2.2.2.2 Bx (cell_lt h1) (by omega))]; exact h1
      · have : g = r := by injection hr
        subst this
        exact hch.2.2.2.2 g hg.2 (by omega)
      · exact ⟨hch.1.trans h4.os, hch.2.1.trans h4.tape, hch.2.2.1.trans h4.output, Nat.le_trans h4.size hch.2.2.2.1, fun r hr => (hch.2.2.2.2 r (by have := h4.size; omega) (by omega)).trans (h4.block r hr)⟩
      · intro r hr hne'
        exact (hch.2.2.2.2 r (by omega) (by omega)).trans (h5 r hr hne')
    case hiter =>
      intro T W1 hb1 hs1 hY
      have hg : gg k = M.grow (M.ent R) n ov n [(k : Int)] 0 := by rw [HGG.out]
      rw [← hs1, hg] at hY
      rw [← hs1, hg]
      exact callsIn_wide.2 (cycles1 ov a n cap R k (w2.heap.size + 1) Ba (Ba + 1) T W1 (HQ2.out.below hb1) hlt ((hb1.cell (p := ⟨Ba, 0, none⟩) (by show Ba < _; omega)).trans hca) ((hb1.cell (p := ⟨Ba + 1, 0, none⟩) (by show Ba + 1 < _; omega)).trans hcf) hY)
    case hassign =>
      intro l x W m K' hp hK'
      obtain ⟨b, L, c, p, wt, rfl, -⟩ := hp
      gi_wp2
      exact hK'
    case hbody =>
      intro x W o m hp hbl hsz
      obtain ⟨b, L, c, p, wt, rfl, ho, hL1, hL2, hres⟩ := hp
      have hcb3 : (W.putObj (w2.heap.size + 1) o).cell? ⟨Bx, 0, none⟩ = some (.slice none 0 0) := by
        rw [World.cell?_of_block (w := W) (a := ⟨Bx, 0, none⟩) (World.putObj_heap_other (by show Bx ≠ _; omega)), hbl.cell (p := ⟨Bx, 0, none⟩) hltB]; exact hcb2
      have hfb3 : (W.putObj (w2.heap.size + 1) o).frozen? ⟨Bx, 0, none⟩ = false := by
        rw [World.frozen?_of_block (w := W) (a := ⟨Bx, 0, none⟩) (World.putObj_heap_other (by show Bx ≠ _; omega)), hbl.frozen (p := ⟨Bx, 0, none⟩) hltB]; exact hfb2
      have HO3 : Hid (Own (W.putObj (w2.heap.size + 1) o) (w2.heap.size + 2) (.slice b L c) p) := ho.keep (fun q h1 _ => World.putObj_heap_other (by omega))
      have HRES := Lib.hid hres
      have HLp : Hid (L = p.length) := ho.len
      have HBL := Lib.hid hbl
      have hl3 : (W.putObj (w2.heap.size + 1) o).cell? ⟨Lx, 0, none⟩ = some (.int .i64 (ov + 1)) := by
        rw [World.cell?_of_block (w := W) (a := ⟨Lx, 0, none⟩) (World.putObj_heap_other (by show Lx ≠ _; omega)), hbl.cell (p := ⟨Lx, 0, none⟩) (by show Lx < _; omega), HB2.out.cell (p := ⟨Lx, 0, none⟩) (by show Lx < _; omega)]; exact HLC.out
      clear ho hres hbl
      change Code.wpIn _ _ _ _ _ { tmps := #[.slice a n cap, .int .i64 (ov + 1), undef, .pointer (some ⟨Lx, 0, none⟩), .slice none 0 0, .pointer (some ⟨Bx, 0, none⟩), .int .i64 k, (.slice b L c), (.int .i64 wt), .slice a n cap, .int .i64 n, .int .i64 k, .bool true, .int .i64 k, .slice a n cap, .int .i64 k, .func (.func 159) #[] #[.pointer (some ⟨Ba, 0, none⟩), .pointer (some ⟨Ba + 1, 0, none⟩)], (.slice b L c), (.int .i64 wt), u19, u20, u21, u22, u23, u24, u25], defers := [] } _
      by_cases hw : ov < wt
      · have hwg : ov + 1 ≤ wt := by omega
        have hwz : W.heap.size = (W.putObj (w2.heap.size + 1) o).heap.size := by simp
        have hBW : Bx < W.heap.size := by omega
        have hp0 : 0 < p.length := by have := HLp.out; omega
        gi_wp2_with (refine ⟨trivial, fun h => by simp [Fence.wide] at h, ?_⟩; gi_at_call 140; refine (CallsIn.inRound _ (callsIn_wide.2 (clone _ _ _ p _ HO3.out.ints' (by omega) (by omega)))).mono ?_; rintro e3 w3 ⟨b3, c3, rfl, ho3, hb3⟩; obtain ⟨g3, rfl, hg3⟩ := own_head ho3 hp0; have hc3 := (hb3.cell (p := ⟨Bx, 0, none⟩) (by rw [← hwz]; exact hBW)).trans hcb3; have hf3 := (hb3.frozen (p := ⟨Bx, 0, none⟩) (by rw [← hwz]; exact hBW)).trans hfb3; have HO4 := Lib.hid ho3; have HB3 := Lib.hid hb3; clear ho3 hb3)
        have hs3 := HB3.out.size
        have hpk := HRES.out hw
        have hgk := own_lt HO4.out rfl
        rw [← hwz] at hg3 hs3
        have hset : ∀ q, q ≠ Bx → (w3.setCell ⟨Bx, 0, none⟩ (.slice (some ⟨g3, 0, none⟩) L c3)).heap[q]? = w3.heap[q]? := fun q hq => Below.heap_setCell w3 ⟨Bx, 0, none⟩ _ q hq
        have hszs : (w3.setCell ⟨Bx, 0, none⟩ (.slice (some ⟨g3, 0, none⟩) L c3)).heap.size = w3.heap.size := by simp
        have hq3 : ∀ q, q < W.heap.size → w3.heap[q]? = (W.putObj (w2.heap.size + 1) o).heap[q]? := fun q hq => HB3.out.block q (by rw [← hwz]; exact hq)
        refine ⟨(hset _ (by omega)).trans (hq3 _ (by omega)), (hset _ (by omega)).trans (hq3 _ (by omega)), by rw [hszs, ← hwz]; exact hs3, fun q hq1 hq2 => (hset _ (by omega)).trans (hq3 _ hq2), rfl, ⟨g3, L, c3, World.cell?_setCell_same' _ _ _ (by rw [hc3]; rfl), ?_, ?_⟩, ?_, ⟨by rw [hszs]; omega, hsz⟩, fun q hq1 hq2 => ?_⟩
        · rw [← hpk]
          have := HO4.out
          rw [← hwz] at this
          exact ownsRow_keep this (fun r hr => by
            have hgr : g3 = r := by injection hr
            subst hgr
            exact hset _ (by omega))
        · rw [← hpk, ← HLp.out]; omega
        · have hbW : Below w.heap.size w W := HB2.out.trans (HBL.out.mono hz2)
          refine ⟨HB3.out.os.trans hbW.os, HB3.out.tape.trans hbW.tape, HB3.out.output.trans hbW.output, by rw [hszs]; have := hbW.size; omega, fun q hq => ?_⟩
          have := hbW.size
          rw [hset _ (by omega), hq3 _ (by omega), World.putObj_heap_other (by omega)]
          exact hbW.block q hq
        · rw [hset _ hq2, hq3 _ (by omega), World.putObj_heap_other (by omega)]
          exact HBL.out.block q hq1
      · have hw' : wt ≤ ov := by omega
        have hwl : ¬ (ov + 1 ≤ wt) := by omega
        gi_wp2
        exact ⟨Below.refl _ _, _, _, rfl, hw'⟩
    case hdone =>
      intro W hF hb hsz hD
      have HPn : Hid (M.overL (M.ent R) n ov = M.pick gg (n - (k + 1)) (k + 1)) := HP.out.trans (M.pick_no hlt hF)
      have HMn : Hid (Marks w.heap.size (w2.heap.size :: Ds) W) := Marks.cons HM2.out (HM2.out.keep (Bx := Bx) hcb2 (Nat.le_refl _) (fun q hq _ => hb.block q hq)) (Nat.le_refl _) hz2 hD
      have HBn : Hid (Below w.heap.size w W) := HB2.out.trans (hb.mono hz2)
      have hcn := (hb.cell (p := ⟨Bx, 0, none⟩) hltB).trans hcb2
      have hfn := (hb.frozen (p := ⟨Bx, 0, none⟩) hltB).trans hfb2
      clear hF hb hD hca hcf hcb2 hfb2
      go_wp2
      exact HK.out _ _ (Handed.intro (n - (k + 1)) (by omega) (HJ.out _ _ _ ⟨k + 1, w2.heap.size :: Ds, .int .i64 k, u7, u8, .bool true, .int .i64 k, .slice a n cap, .int .i64 k, _, u17, u18, u19, u20, u21, u22, u23, .int .i64 ((k : Int) + 1), u25, by omega, rfl, rfl, HMn.out, HBn.out, hcn, hfn, HPn.out⟩))
    case hstop =>
      intro id x W2 W hp hb hst hD
      obtain ⟨rfl, ⟨g, L, c, h1, h2, h3⟩, h4, ⟨h6, h7⟩, h5⟩ := hst
      have HEq : Hid (M.overL (M.ent R) n ov = gg k) := HP.out.trans (M.pick_yes hlt h3)
      have HMn : Hid (Marks w.heap.size (w2.heap.size :: Ds) W) := Marks.cons HM2.out (HM2.out.keep (Bx := Bx) hcb2 (Nat.le_refl _) h5) (Nat.le_refl _) hz2 hD
      have HOn : Hid (Own W w.heap.size (.slice (some ⟨g, 0, none⟩) L c) (gg k)) := h2.mono (by omega)
      have HB4 := Lib.hid h4
      clear h2 h3 h4 h5 h6 h7 hb hp hD hca hcf hcb2 hfb2
      refine wpIn_wide.2 ?_
      go_wp2
      rw [Exit.noGoto_ret]
      exact leaves_marks (lo := w.heap.size) (fun W' => Own W' w.heap.size (.slice (some ⟨g, 0, none⟩) L c) (gg k) ∧ Below w.heap.size w W')
        (fun A D o hA hlo' hD' => ⟨ownsRow_keep hA.1 (fun r hr => World.putObj_heap_other (by
          have hgr : g = r := by injection hr
          subst hgr
          rintro rfl
          obtain ⟨-, ⟨hv, -⟩ | ⟨g', cap', cur, hv, -, hg', -⟩⟩ := hA.1
          · cases hv
          · injection hv with e1 e2 e3
            injection e1 with e1
            injection e1 with e1
            subst e1
            rw [hD'] at hg'
            cases hg')), ⟨hA.2.os, hA.2.tape, hA.2.output, by have := hA.2.size; simpa using this, fun r hr => (World.putObj_heap_other (by omega)).trans (hA.2.block r hr)⟩⟩)
        (fun A hA => ⟨_, results_tmp rfl _ _ _, ⟨some ⟨g, 0, none⟩, L, c, rfl, by rw [HEq.out]; exact hA.1.mono HW0.out.size, HW0.out.trans (hA.2.mono HW0.out.size)⟩⟩) (w2.heap.size :: Ds) W HMn.out ⟨HOn.out, HB4.out⟩
  · obtain rfl : k = n := by omega
    have HEq : Hid (M.overL (M.ent R) k ov = []) := HP.out.trans M.pick_end
    have HBl := Lib.hid hBl
    have HMk := Lib.hid hMk
    clear hBl hMk hfb
    go_wp2
    rw [Exit.noGoto_ret]
    exact leaves_marks (lo := w.heap.size) (fun W' => Below w.heap.size w W')
      (fun A D o hA hlo' hD' => ⟨hA.os, hA.tape, hA.output, by have := hA.size; simpa using this, fun r hr => (World.putObj_heap_other (by omega)).trans (hA.block r hr)⟩)
      (fun A hA => ⟨_, results_tmp rfl _ _ _, ⟨none, 0, 0, rfl, by rw [HEq.out]; exact own_nil _ _, HW0.out.trans (hA.mono HW0.out.size)⟩⟩) Ds w' HMk.out HBl.out

set_option maxRecDepth 100000 in
set_option maxHeartbeats 1000000 in
theorem positiveCycle (a : Option Addr) (n cap : Nat) (R : List (List Int)) (w : World) (h : Mat w a n R) :
    Calls Try.prog 66 #[.slice a n cap] w (VRes (M.posRes R) w) := by
  have hR := h.1
  by_cases hs : M.sqB R = true
  · have hQ := sq_of h hs
    have hn10 := hQ.2.2.2
    by_cases hp : M.noPos (M.ent R) n = true
    · have h0 := M.over_none hn10.2 hQ.2.2.1 hp
      have HE : Hid (M.posRes R = ([], 4)) := by show _ = _; unfold M.posRes; rw [if_pos hs, hR, if_pos h0]
      have HC : Calls Try.prog 118 #[.slice a n cap] w (CPost (M.plusL R n) w) := plusOf a n cap R w hQ
      have e : (M.plusL R n).2 = true := by unfold M.plusL; rw [hp]; rfl
      have HA := Lib.hid h
      have HS := Lib.hid hs
      clear h hs hp hQ h0 hR
      go_enter Try.func66, Try.ntmps66
      go_wp2_with (go_at_call 117; refine (isSquare_b _ _ _ R _ true HS.out HA.out).mono ?_; rintro e w' ⟨rfl, rfl⟩)
      refine HC.mono ?_
      rintro e1 w1 ⟨a2, m2, cap2, rfl, -, hb⟩
      rw [e]
      have HB := Lib.hid hb
      clear hb HC
      go_wp2
      go_ret2
      exact VRes.nil HE.out HB.out
    · simp only [Bool.not_eq_true] at hp
      have h0 := M.over_some hn10.2 hQ.2.2.1 hp
      have HE : Hid (M.posRes R = (M.overL (M.ent R) n 0, 0)) := by show _ = _; unfold M.posRes; rw [if_pos hs, hR, if_neg h0]
      have HC : Calls Try.prog 118 #[.slice a n cap] w (CPost (M.plusL R n) w) := plusOf a n cap R w hQ
      have e : (M.plusL R n).2 = false := by unfold M.plusL; rw [hp]; rfl
      have HA := Lib.hid h
      have HS := Lib.hid hs
      have HQ := Lib.hid hQ
      clear h hs hp hQ h0 hR
      go_enter Try.func66, Try.ntmps66
      go_wp2_with (go_at_call 117; refine (isSquare_b _ _ _ R _ true HS.out HA.out).mono ?_; rintro e w' ⟨rfl, rfl⟩)
      refine HC.mono ?_
      rintro e1 w1 ⟨a2, m2, cap2, rfl, -, hb⟩
      rw [e]
      have HB := Lib.hid hb
      clear hb HC
      go_wp2_with fail
      refine (smallestCycle _ _ _ R 0 _ (HQ.out.below HB.out)).mono ?_
      rintro e2 w2 ⟨b, n', c', rfl, ho, hb2⟩
      have HO := Lib.hid ho
      have HB2 := Lib.hid hb2
      clear ho hb2
      go_wp2
      go_ret2
      rw [HE.out]
      exact ⟨_, _, _, rfl, HO.out.mono HB.out.size, HB.out.trans (HB2.out.mono HB.out.size)⟩
  · simp only [Bool.not_eq_true] at hs
    have HE : Hid (M.posRes R = ([], 1)) := by show _ = _; unfold M.posRes; rw [if_neg (by rw [hs]; exact Bool.false_ne_true)]
    have HA := Lib.hid h
    have HS := Lib.hid hs
    clear h hs hR
    go_enter Try.func66, Try.ntmps66
    go_wp2_with (go_at_call 117; refine (isSquare_b _ _ _ R _ false HS.out HA.out).mono ?_; rintro e w' ⟨rfl, rfl⟩)
    go_ret2
    exact VRes.nil HE.out (Below.refl _ _)
end Go.Proofs.Ytobdgboejbbfiaa.V
namespace Go.Proofs.Ytobdgboejbbfiaa.M
theorem pick_len {g : Nat → List Int} {m : Nat} (h : ∀ v, (g v).length ≤ m) : ∀ c k, (pick g c k).length ≤ m := by
  intro c
  induction c with
  | zero => intro k; exact Nat.zero_le _
  | succ c ih =>
    intro k
    show (if _ then _ else _ : List Int).length ≤ m
    split
    · exact ih _
    · exact h k
theorem posRes_len (R : List (List Int)) : (posRes R).1.length ≤ 11 := by
  unfold posRes
  split
  · next h =>
    obtain ⟨m1, m2, -⟩ := isMat_t (sqB_t h).1
    split
    · simp
    · have := pick_len (g := fun v => grow (ent R) R.length 0 R.length [(v : Int)] 0) (m := 11) (fun v => by
        have := grow_nodes (ent R) R.length 0 R.length [(v : Int)] 0
        simp at this; omega) R.length 0
      exact this
  · simp
end Go.Proofs.Ytobdgboejbbfiaa.M

namespace Go.Proofs.Ytobdgboejbbfiaa.V
open Go.RowKit

/-- The matrix whose diagonal is 0 before row k. -/
def M.diaF (A : Nat → Nat → Int) (n k i j : Nat) : Int := if i = j ∧ i < k then 0 else M.cfw A n i j
set_option maxRecDepth 100000 in
set_option maxHeartbeats 1000000 in
theorem starOf (a : Option Addr) (n cap : Nat) (R : List (List Int)) (w : World) (h : Sq w a n R) :
    Calls Try.prog 70 #[.slice a n cap] w (CPost (M.starL R n) w) := by
  have HS := Lib.hid h
  obtain ⟨n1, n2⟩ := h.2.2.2
  clear h
  obtain ⟨r, hr⟩ : ∃ r, r = M.plusL R n := ⟨_, rfl⟩
  have HC : Calls Try.prog 118 #[.slice a n cap] w (CPost r w) := by rw [hr]; exact plusOf _ _ _ _ _ HS.out
  by_cases hp : M.noPos (M.ent R) n = true
  · have hr2 : r = (M.plusM R n, true) := by rw [hr]; unfold M.plusL; rw [hp]; rfl
    have HF : Hid (M.starL R n = (M.starM R n, true)) := by show _ = _; unfold M.starL; rw [hp]; rfl
    clear hr hp
    subst hr2
    go_enter Try.func70, Try.ntmps70
    go_wp2_with fail
    refine HC.mono ?_
    rintro e w1 ⟨a2, m, cap2, rfl, hO, hb⟩
    obtain rfl : m = n := by have := hO.len; simpa [M.plusM] using this
    have HO0 : Hid (OwnM w1 w.heap.size (.slice a2 m cap2) (M.mk m m (M.diaF (M.ent R) m 0))) :=
      (congrArg (OwnM _ _ _) (M.mk_congr fun i _ j _ => by unfold M.diaF; rw [if_neg (by omega)])).mp hO
    have HB0 := Lib.hid hb
    clear hO hb HC
    go_wp2
    go_loopw [6, 14] (fun _ i wr => ∃ k : Nat, k ≤ m ∧ i = .int .i64 k ∧ OwnM wr w.heap.size (.slice a2 m cap2) (M.mk m m (M.diaF (M.ent R) m k)) ∧ Below w.heap.size w wr) (fun _ i _ => m - (intOf i).toNat)
    case atStart => exact ⟨0, Nat.zero_le _, rfl, HO0.out, HB0.out⟩
    case round =>
      obtain ⟨k, hk, rfl, hO, hb⟩ := hrel
      have HO := Lib.hid hO
      have HB := Lib.hid hb
      clear hO hb HO0 HB0
      by_cases hlt : k < m
      · obtain ⟨g, q, L, c, x, rfl, hg, hq, hL, hx, h1, h2, h3, h4⟩ := HO.out.at k k hlt (by rw [M.mk_rowlen _ _ _ _ hlt]; exact hlt)
        rw [M.mk_rowlen _ _ _ _ hlt] at hL
        obtain rfl : m = L := hL.symm
        have hN := h4 0
        rw [M.mk_set _ _ _ _ _ _ hlt] at hN
        have HN := Lib.hid hN
        have hki : (k : Int) < (m : Int) := by omega
        clear hx h4 hN
        go_wp2
        go_roundw
        case rel =>
          refine ⟨k + 1, by omega, by go_num, (congrArg (OwnM _ _ _) (M.mk_congr fun i _ j _ => ?_)).mp HN.out, HB.out.setCell hq _⟩
          unfold M.diaF
          by_cases e : i = k
          · subst e
            by_cases e2 : j = i
            · subst e2; simp
            · rw [if_pos rfl, if_neg e2, if_neg (by omega), if_neg (by omega)]
          · rw [if_neg e]
            by_cases e2 : i = j ∧ i < k
            · rw [if_pos e2, if_pos (by omega)]
            · rw [if_neg e2, if_neg (by omega)]
        case measure => simp [intOf]; omega
      · obtain rfl : k = m := by omega
        go_wp2
        go_ret2
        rw [HF.out]
        refine ⟨_, _, _, rfl, (congrArg (OwnM _ _ _) (M.mk_congr fun i hi j _ => ?_)).mp HO.out, HB.out⟩
        unfold M.diaF M.starF
        by_cases e : i = j
        · rw [if_pos ⟨e, hi⟩, if_pos e]
        · rw [if_neg (by omega), if_neg e]
  · simp only [Bool.not_eq_true] at hp
    have hr2 : r = ([], false) := by rw [hr]; unfold M.plusL; rw [hp]; rfl
    have HF : Hid (M.starL R n = ([], false)) := by show _ = _; unfold M.starL; rw [hp]; rfl
    clear hr hp
    subst hr2
    go_enter Try.func70, Try.ntmps70
    go_wp2_with fail
    refine HC.mono ?_
    rintro e w1 ⟨a2, m, cap2, rfl, hO, hb⟩
    obtain rfl : m = 0 := by have := hO.len; simpa using this
    have HB0 := Lib.hid hb
    have HO0 := Lib.hid hO
    clear hO hb HC
    go_wp2
    go_loop [14] (fun i => i = .int .i64 0) (fun _ => 0)
    case atStart => rfl
    case round =>
      subst hrel
      go_wp2
      go_ret2
      rw [HF.out]
      exact ⟨_, _, _, rfl, HO0.out, HB0.out⟩



end Go.Proofs.Ytobdgboejbbfiaa.V
