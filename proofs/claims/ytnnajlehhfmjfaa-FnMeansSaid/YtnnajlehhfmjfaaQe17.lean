/- Texts laid together: It3, It4, It5, Itz, Dcz, Thn, Mns, Like, Mat1. -/
import Derived.Test.YtnnajlehhfmjfaaQe16
import Derived.Test.YtnnajlehhfmjfaaQe6
import Derived.Test.YtnnajlehhfmjfaaQe7
import Derived.Test.YtnnajlehhfmjfaaQe10
import Derived.Test.YtnnajlehhfmjfaaQe1
import Derived.WalkMore
import Derived.Deep.LoopGhost
import Derived.Scope
import Derived.Test.YtnnajlehhfmjfaaQe14
import Derived.Maps.AppendAt
import Derived.Test.YtnnajlehhfmjfaaQe8
import Derived.Test.YtnnajlehhfmjfaaQe2
import Derived.Test.YtnnajlehhfmjfaaRows
import Derived.WalkKit
import Derived.ProofKit
import Derived.WalkSmall
import Derived.Deep.QuietTactic
import Derived.BigQuiet
import Derived.BigRegion
import Derived.Deep.Draws
import Derived.Lib.Hide
import Derived.OpenShut
import Derived.Deep.OwnRows
set_option linter.unusedSimpArgs false
set_option linter.unusedVariables false
set_option linter.unusedSectionVars false
namespace Go.Proofs.Ytnnajlehhfmjfaa.V
open Go Go.RowKit

/-- The cells of a new search, before yield is laid. -/
abbrev newSrch (sa v : Value) : Obj := .cells #[sa, v, .bool false, .bool false, .bool false, .bool false, .bool false, .bool false, .bool false, .bool false, .bool false, .bool false, .nilFunc] 127
theorem newSrch_row (W : World) (sa v : Value) : (W.alloc (newSrch sa v)).rowIs W.heap.size 127 13 (fun i => if i = 0 then sa else if i = 1 then v else if i = 12 then .nilFunc else .bool false) :=
  World.rowIs_alloc W #[sa, v, .bool false, .bool false, .bool false, .bool false, .bool false, .bool false, .bool false, .bool false, .bool false, .bool false, .nilFunc] 127 _ (fun i hi => by
    match i, hi with
    | 0, _ => rfl
    | 1, _ => rfl
    | 2, _ => rfl
    | 3, _ => rfl
    | 4, _ => rfl
    | 5, _ => rfl
    | 6, _ => rfl
    | 7, _ => rfl
    | 8, _ => rfl
    | 9, _ => rfl
    | 10, _ => rfl
    | 11, _ => rfl
    | 12, _ => rfl)
abbrev newSrch2 (sa v : Value) (l : Nat) : Obj := .cells #[sa, v, .bool false, .bool false, .bool false, .bool false, .bool false, .bool false, .bool false, .bool false, .bool false, .bool false, .func (.yield l) #[] #[]] 127
theorem newSrch_srch (W : World) (sa v : Value) (l : Nat) : Srch (W.alloc (newSrch2 sa v l)) W.heap.size sa v (fun _ => false) l :=
  World.rowIs_alloc W #[sa, v, .bool false, .bool false, .bool false, .bool false, .bool false, .bool false, .bool false, .bool false, .bool false, .bool false, .func (.yield l) #[] #[]] 127 _ (fun i hi => by
    match i, hi with
    | 0, _ => rfl
    | 1, _ => rfl
    | 2, _ => rfl
    | 3, _ => rfl
    | 4, _ => rfl
    | 5, _ => rfl
    | 6, _ => rfl
    | 7, _ => rfl
    | 8, _ => rfl
    | 9, _ => rfl
    | 10, _ => rfl
    | 11, _ => rfl
    | 12, _ => rfl)

set_option maxRecDepth 100000 in
set_option maxHeartbeats 4000000 in
theorem cycles1 (ov : Int) (a : Option Addr) (n cap : Nat) (R : List (List Int)) (i l Ba Bf : Nat) (T : Array Value → World → World → Prop) (W1 : World) (hS1 : Sq W1 a n R) (hi : i < n)
    (hca : W1.cell? ⟨Ba, 0, none⟩ = some (.slice a n cap)) (hcf : W1.cell? ⟨Bf, 0, none⟩ = some (.int .i64 i))
    (hY : ∀ x W m, PreC ov W1.heap.size (M.grow (M.ent R) n ov n [(i : Int)] 0) x W → Below W1.heap.size W1 W → YieldAt Fence.wide m Try.prog l x W fun e W' => (e = .returned (.bool true) ∧ Below W.heap.size W W' ∧ GoC ov x) ∨ (e = .returned (.bool false) ∧ T x W W' ∧ W.heap.size ≤ W'.heap.size ∧ ∀ k, W1.heap.size ≤ k → k < W.heap.size → W'.heap[k]? = W.heap[k]?)) :
    Calls Try.prog 134 #[.func (.yield l) #[] #[], .pointer (some ⟨Ba, 0, none⟩), .pointer (some ⟨Bf, 0, none⟩)] W1 fun e W' => (∃ v, e = .returned v) ∧
      (((M.grow (M.ent R) n ov n [(i : Int)] 0).length = 0 ∧ Below W1.heap.size W1 W') ∨ ∃ x W2 W3 S, PreC ov W1.heap.size (M.grow (M.ent R) n ov n [(i : Int)] 0) x W2 ∧ Below W1.heap.size W1 W2 ∧ T x W2 W3 ∧ W1.heap.size ≤ S ∧ S < W2.heap.size ∧ W2.heap.size ≤ W3.heap.size ∧ Chg1 S W3 W') := by
  have HS := Lib.hid hS1
  have HYY := Lib.hid hY
  clear hS1 hY
  have hr := newSrch_row (W1.alloc (.cells #[.int .i64 i] 2)) (.slice a n cap) (.slice (some ⟨W1.heap.size, 0, none⟩) 1 1)
  have hq1 := World.rowIs.cell hr (i := 12) (by omega)
  have hq2 := World.rowIs.frozen hr 12
  have hsr := newSrch_srch (W1.alloc (.cells #[.int .i64 i] 2)) (.slice a n cap) (.slice (some ⟨W1.heap.size, 0, none⟩) 1 1) l
  rw [World.size_alloc] at hq1 hq2 hsr
  have hst : Sem.run Try.prog (store ⟨W1.heap.size + 1, 12, none⟩ (.func (.yield l) #[] #[])) ((W1.alloc (.cells #[.int .i64 i] 2)).alloc (newSrch (.slice a n cap) (.slice (some ⟨W1.heap.size, 0, none⟩) 1 1))) = .ok () (((W1.alloc (.cells #[.int .i64 i] 2)).alloc (newSrch (.slice a n cap) (.slice (some ⟨W1.heap.size, 0, none⟩) 1 1))).setCell ⟨W1.heap.size + 1, 12, none⟩ (.func (.yield l) #[] #[])) := by
    rw [run_store _ _ _ _ _ rfl]
    simp [stored, hq1, hq2]
  unfold newSrch at hst
  have HSR := Lib.hid hsr
  clear hr hsr
  go_enter Try.func134, Try.ntmps134
  go_wp2_with fail
  refine (extend ov a n cap R _ l (W1.heap.size + 1) T W1 HS.out (by omega) HYY.out n W1.heap.size 1 1 [(i : Int)] 0 (fun _ => false) _ ?hb HSR.out ?ho ?hn ?hd (by omega) (by omega) (by omega) (by omega) ?hu (fun _ => rfl)).mono ?_
  case hb => exact ((Below.refl _ _).alloc (Nat.le_refl _) _).alloc (by simp) _
  case ho =>
    have h0 : Own (W1.alloc (.cells #[.int .i64 i] 2)) W1.heap.size (.slice (some ⟨W1.heap.size, 0, none⟩) 1 1) [(i : Int)] := World.ownsRow_lit W1 #[.int .i64 i] 1 (Nat.le_refl _) (by decide) rfl
    refine h0.keep fun k _ hk => ?_
    have hk' : k < W1.heap.size + 1 := by simpa using hk
    exact Below.heap_alloc _ _ _ (by simpa using hk')
  case hn => simp [M.nodesB, M.inN]; omega
  case hd => exact M.diffB_of fun q hq => by simp at hq; subst hq; rfl
  case hu =>
    intro q hq hne
    have hne' : ¬ q = i := by simpa [M.vx] using hne
    have : ¬ (q : Int) = (i : Int) := by omega
    simp [M.hasB, this]
  rintro e w2 (⟨rfl, hnil, -, hb⟩ | ⟨rfl, -, x, W2, W3, q1, q2, q3, q4, q5, q6⟩)
  · go_wp2
    go_end0
    exact ⟨⟨_, rfl⟩, .inl ⟨hnil, hb⟩⟩
  · go_wp2
    go_end0
    exact ⟨⟨_, rfl⟩, .inr ⟨x, W2, W3, _, q1, q2, q3, by omega, q4, q5, q6⟩⟩

set_option maxRecDepth 100000 in
set_option maxHeartbeats 1000000 in
theorem cyclesFrom_ (v : Value) (i : Int) (w : World) (hv : ∃ a n c, v = .slice a n c) :
    Calls Try.prog 99 #[v, .int .i64 i] w fun e w' => e = .returned (.func (.func 134) #[] #[.pointer (some ⟨w.heap.size, 0, none⟩), .pointer (some ⟨w.heap.size + 1, 0, none⟩)]) ∧ w' = (w.alloc (.cells #[v] 24)).alloc (.cells #[.int .i64 i] 2) := by
  obtain ⟨a, n, c, rfl⟩ := hv
  go_enter Try.func99, Try.ntmps99
  go_wp2
  go_ret
  exact ⟨rfl, rfl⟩
end Go.Proofs.Ytnnajlehhfmjfaa.V

namespace Go.Proofs.Ytnnajlehhfmjfaa.V
open Go Go.RowKit

def mark (D : Nat) : Deferred := { target := .collected D, args := #[] }
/-- The marks Ds lie, all different, at or past lo. -/
def Marks (lo : Nat) (Ds : List Nat) (W : World) : Prop := Ds.Nodup ∧ ∀ D ∈ Ds, lo ≤ D ∧ W.heap[D]? = some (.deferred (some []))
theorem Marks.nil (lo : Nat) (W : World) : Marks lo [] W := ⟨List.nodup_nil, fun D h => by cases h⟩
theorem Marks.keep {lo Bx N : Nat} {Ds : List Nat} {A B : World} {v : Value} (h : Marks lo Ds A) (hx : A.cell? ⟨Bx, 0, none⟩ = some v) (hN : A.heap.size ≤ N) (hk : ∀ k, k < N → k ≠ Bx → B.heap[k]? = A.heap[k]?) : Marks lo Ds B :=
  ⟨h.1, fun D hD => by
    obtain ⟨h1, h2⟩ := h.2 D hD
    have hlt := (Array.getElem?_eq_some_iff.1 h2).1
    refine ⟨h1, (hk D (by omega) ?_).trans h2⟩
    rintro rfl
    simp [World.cell?, h2] at hx⟩
theorem Marks.cons {lo D : Nat} {Ds : List Nat} {A B : World} (h : Marks lo Ds A) (hB : Marks lo Ds B) (hD : A.heap.size ≤ D) (hlo : lo ≤ D) (hd : B.heap[D]? = some (.deferred (some []))) : Marks lo (D :: Ds) B :=
  ⟨List.nodup_cons.2 ⟨fun hm => by
    have := (Array.getElem?_eq_some_iff.1 (h.2 D hm).2).1
    omega, h.1⟩, fun E hE => by
    rcases List.mem_cons.1 hE with rfl | hE
    · exact ⟨hlo, hd⟩
    · exact hB.2 E hE⟩
theorem leaves_marks {P : Program} {n : Nat} {fn : Func} {tmps : Array Value} {R : Ending → World → Prop} {lo : Nat} (Good : World → Prop) (hG : ∀ W D o, Good W → lo ≤ D → W.heap[D]? = some (.deferred (some [])) → Good (W.putObj D o))
    (hfin : ∀ W, Good W → LeavesInM Fence.wide n P fn tmps R [] .returning W) (Ds : List Nat) : ∀ W, Marks lo Ds W → Good W → LeavesInM Fence.wide n P fn tmps R (Ds.map mark) .returning W := by
  induction Ds with
  | nil => intro W _ hg; exact hfin W hg
  | cons D Ds ih =>
    intro W hm hg
    obtain ⟨h1, h2⟩ := hm.2 D (by simp)
    refine ⟨by simp, .inl ⟨D, _, rfl, run_takeDeferred h2, ih _ ?_ (hG _ _ _ hg h1 h2)⟩⟩
    refine ⟨(List.nodup_cons.1 hm.1).2, fun E hE => ?_⟩
    obtain ⟨q1, q2⟩ := hm.2 E (List.mem_cons_of_mem _ hE)
    refine ⟨q1, (World.putObj_heap_other ?_).trans q2⟩
    rintro rfl
    exact (List.nodup_cons.1 hm.1).1 hE
end Go.Proofs.Ytnnajlehhfmjfaa.V

namespace Go.Proofs.Ytnnajlehhfmjfaa.V
open Go Go.RowKit Go.Shelf
attribute [local go_sem] Oper.semAt_some

theorem own_head {w : World} {B n c : Nat} {b : Option Addr} {p : List Int} (h : Own w B (.slice b n c) p) (hn : 0 < p.length) : ∃ g, b = some ⟨g, 0, none⟩ ∧ B ≤ g := by
  obtain ⟨a', c', hv, -, -, hg⟩ := own_form h
  injection hv with e1 e2 e3
  obtain ⟨g, h1, h2, -⟩ := hg hn
  exact ⟨g, by rw [e1]; exact h1, h2⟩

set_option maxRecDepth 100000 in
set_option maxHeartbeats 4000000 in
theorem smallestCycle (a : Option Addr) (n cap : Nat) (R : List (List Int)) (ov : Int) (w0 : World) (hq : Sq w0 a n R) :
    Calls Try.prog 61 #[.slice a n cap, .int .i64 (ov + 1)] w0 fun e w' => ∃ b n' c', e = .returned (.slice b n' c') ∧ Own w' w0.heap.size (.slice b n' c') (M.overL (M.ent R) n ov) ∧ Below w0.heap.size w0 w' := by
  obtain ⟨w, hwd⟩ : ∃ w, w = w0.alloc (.cells #[.int .i64 (ov + 1)] 2) := ⟨_, rfl⟩
  have HQ : Hid (Sq w a n R) := by rw [hwd]; exact hq.below (b_alloc _ _)
  have HW0 : Hid (Below w0.heap.size w0 w) := by rw [hwd]; exact b_alloc _ _
  have hLx : w.heap.size = w0.heap.size + 1 := by rw [hwd]; simp
  have HLC : Hid (w.cell? ⟨w0.heap.size, 0, none⟩ = some (.int .i64 (ov + 1))) := by show _ = _; rw [hwd]; simp
  have hn10 := HQ.out.2.2.2
  clear hq
  refine callsIn_wide.1 (callsIn_of_wp_marks (n := 3) Try.func61 rfl trivial (wpIn_wide.2 ?_) rfl)
  simp only [Try.ntmps61, List.size_toArray, List.length_cons, List.length_nil, Nat.reduceAdd, Nat.reduceSub, Array.replicate_succ, Array.replicate_zero, List.push_toArray, List.append_toArray, List.nil_append, List.cons_append]
  go_wp2
  rw [← hwd]
  clear hwd
  go_step3
  go_wp2
  obtain ⟨Lx, hLxd⟩ : ∃ Lx, Lx = w0.heap.size := ⟨_, rfl⟩
  rw [← hLxd] at hLx HLC ⊢
  clear hLxd
  obtain ⟨Bx, hBx'⟩ : ∃ Bx, Bx = Lx + 1 := ⟨_, rfl⟩
  have hBx : Bx = w.heap.size := by rw [hBx', hLx]
  have hlo : w.heap.size ≤ Bx := by omega
  obtain ⟨gg, hgg⟩ : ∃ gg : Nat → List Int, gg = fun (v : Nat) => M.grow (M.ent R) n ov n [(v : Int)] 0 := ⟨_, rfl⟩
  have HGG := Lib.hid hgg
  have hov : M.overL (M.ent R) n ov = M.pick gg (n - 0) 0 := by rw [hgg]; rfl
  have hcb : (w.alloc (.cells #[.slice none 0 0] 30)).cell? ⟨Bx, 0, none⟩ = some (.slice none 0 0) := by rw [hBx]; simp
  have hfb : (w.alloc (.cells #[.slice none 0 0] 30)).frozen? ⟨Bx, 0, none⟩ = false := by rw [hBx]; simp
  have hbb : Below w.heap.size w (w.alloc (.cells #[.slice none 0 0] 30)) := b_alloc _ _
  rw [← hBx']
  clear hgg hBx hBx'
  go_step3
  go_wp2
  refine wp_loop_ghost_k (fun m a' w' => ∃ (k : Nat) (Ds : List Nat) (u6 u7 u8 u12 u13 u14 u15 u16 u17 u18 u19 u20 u21 u22 u23 u24 u25 : Value), k ≤ n ∧ m = n - k ∧ a' = { tmps := #[.slice a n cap, .int .i64 (ov + 1), undef, .pointer (some ⟨Lx, 0, none⟩), .slice none 0 0, .pointer (some ⟨Bx, 0, none⟩), u6, u7, u8, .slice a n cap, .int .i64 n, .int .i64 k, u12, u13, u14, u15, u16, u17, u18, u19, u20, u21, u22, u23, u24, u25], defers := Ds.map mark } ∧ Marks w.heap.size Ds w' ∧ Below w.heap.size w w' ∧ w'.cell? ⟨Bx, 0, none⟩ = some (.slice none 0 0) ∧ w'.frozen? ⟨Bx, 0, none⟩ = false ∧ Hid (M.overL (M.ent R) n ov = M.pick gg (n - k) k)) n ⟨0, [], _, _, _, _, _, _, _, _, _, _, _, _, _, _, _, _, _, Nat.zero_le _, rfl, rfl, Marks.nil _ _, hbb, hcb, hfb, hov⟩ ?_
  clear hcb hfb hbb hov
  intro m a' w' hI J K hJ hK
  obtain ⟨k, Ds, u6, u7, u8, u12, u13, u14, u15, u16, u17, u18, u19, u20, u21, u22, u23, u24, u25, hk, rfl, rfl, hMk, hBl, hcb, hfb, HP⟩ := hI
  by_cases hlt : k < n
  · have hki : (k : Int) < (n : Int) := by omega
    have HJ := Lib.hid hJ
    have HK := Lib.hid hK
    have HMk := Lib.hid hMk
    have HBl := Lib.hid hBl
    clear hJ hK hMk hBl
    go_wp2_with (go_at_call 99; refine (cyclesFrom_ _ _ _ ⟨_, _, _, rfl⟩).mono ?_; rintro e2 w2 ⟨rfl, rfl⟩)
    obtain ⟨Ba, hBa⟩ : ∃ Ba, Ba = w'.heap.size := ⟨_, rfl⟩
    have hlt1 : Bx < w'.heap.size := cell_lt hcb
    obtain ⟨w2, hw2⟩ : ∃ w2, w2 = ((w'.alloc (.cells #[.slice a n cap] 24)).alloc (.cells #[.int .i64 k] 2)) := ⟨_, rfl⟩
    have hbw : Below w'.heap.size w' w2 := by rw [hw2]; exact ((Below.refl _ _).alloc (Nat.le_refl _) _).alloc (by simp) _
    have hsz2 : w2.heap.size = Ba + 2 := by rw [hw2, hBa]; simp
    have hca : w2.cell? ⟨Ba, 0, none⟩ = some (.slice a n cap) := by
      rw [hw2, hBa, World.cell?_alloc_old _ _ _ (by simp)]; simp
    have hcf : w2.cell? ⟨Ba + 1, 0, none⟩ = some (.int .i64 k) := by
      have h := World.alloc_heap_new (w'.alloc (.cells #[.slice a n cap] 24)) (.cells #[.int .i64 k] 2)
      rw [World.size_alloc] at h
      rw [hw2, hBa]
      simp only [World.cell?, h]
      rfl
    rw [← hw2, ← hBa]
    have hcb2 := (hbw.cell (p := ⟨Bx, 0, none⟩) hlt1).trans hcb
    have hfb2 := (hbw.frozen (p := ⟨Bx, 0, none⟩) hlt1).trans hfb
    have HM2 : Hid (Marks w.heap.size Ds w2) := HMk.out.keep (Bx := Bx) hcb (Nat.le_refl _) (fun q hq _ => hbw.block q hq)
    have HB2 : Hid (Below w.heap.size w w2) := HBl.out.trans (hbw.mono HBl.out.size)
    have HQ2 : Hid (Sq w2 a n R) := HQ.out.below HB2.out
    have hltB : Bx < w2.heap.size := by rw [hsz2, hBa]; omega
    have hz2 : w.heap.size ≤ w2.heap.size := HB2.out.size
    have hBa2 : Ba + 1 < w2.heap.size := by omega
    clear hw2 hbw hcb hfb hBa hlt1 hsz2
    refine (wpIn_wide (n := 3)).1 ?_
    refine rangeState (gf := 134) (lb := #[.pointer (some ⟨Ba, 0, none⟩), .pointer (some ⟨Ba + 1, 0, none⟩)]) rfl (enters_of Try.func134 (by kernel_rfl) rfl) (PreC ov (w2.heap.size + 2) (gg k)) ?hps (GoC ov)
      (fun id _ W A => id = 0 ∧ (∃ g L c, A.cell? ⟨Bx, 0, none⟩ = some (.slice (some ⟨g, 0, none⟩) L c) ∧ Own A W.heap.size (.slice (some ⟨g, 0, none⟩) L c) (gg k) ∧ (gg k).length ≠ 0) ∧ Below w.heap.size w A ∧ (w2.heap.size ≤ A.heap.size ∧ w2.heap.size + 2 ≤ W.heap.size) ∧ ∀ q, q < w2.heap.size → q ≠ Bx → A.heap[q]? = w2.heap[q]?)
      ((gg k).length = 0) ?hMove ?hiter (fun x => match x.toList with | [p, q] => { tmps := #[.slice a n cap, .int .i64 (ov + 1), undef, .pointer (some ⟨Lx, 0, none⟩), .slice none 0 0, .pointer (some ⟨Bx, 0, none⟩), .int .i64 k, p, q, .slice a n cap, .int .i64 n, .int .i64 k, .bool true, .int .i64 k, .slice a n cap, .int .i64 k, .func (.func 134) #[] #[.pointer (some ⟨Ba, 0, none⟩), .pointer (some ⟨Ba + 1, 0, none⟩)], p, q, u19, u20, u21, u22, u23, u24, u25], defers := [] } | _ => { tmps := #[], defers := [] }) ?hassign ?hbody ?hdone ?hstop
    case hps => rintro x W ⟨b, L, c, p, wt, rfl, -⟩; rfl
    case hMove =>
      rintro id x W A B q ⟨rfl, ⟨g, L, c, h1, h2, h3⟩, h4, ⟨h6, h7⟩, h5⟩ hch hq
      have hg : W.heap.size ≤ g ∧ g < A.heap.size := own_lt h2 rfl
      refine ⟨rfl, ⟨g, L, c, ?_, ownsRow_keep h2 (fun r hr => ?_), h3⟩, ?_, ⟨Nat.le_trans h6 hch.2.2.2.1, h7⟩, ?_⟩
      · rw [World.cell?_of_block (w := A) (w' := B) (a := ⟨Bx, 0, none⟩) (hch.2.2.2.2 Bx (cell_lt h1) (by omega))]; exact h1
      · have : g = r := by injection hr
        subst this
        exact hch.2.2.2.2 g hg.2 (by omega)
      · exact ⟨hch.1.trans h4.os, hch.2.1.trans h4.tape, hch.2.2.1.trans h4.output, Nat.le_trans h4.size hch.2.2.2.1, fun r hr => (hch.2.2.2.2 r (by have := h4.size; omega) (by omega)).trans (h4.block r hr)⟩
      · intro r hr hne'
        exact (hch.2.2.2.2 r (by omega) (by omega)).trans (h5 r hr hne')
    case hiter =>
      intro T W1 hb1 hs1 hY
      have hg : gg k = M.grow (M.ent R) n ov n [(k : Int)] 0 := by rw [HGG.out]
      rw [← hs1, hg] at hY
      rw [← hs1, hg]
      exact callsIn_wide.2 (cycles1 ov a n cap R k (w2.heap.size + 1) Ba (Ba + 1) T W1 (HQ2.out.below hb1) hlt ((hb1.cell (p := ⟨Ba, 0, none⟩) (by show Ba < _; omega)).trans hca) ((hb1.cell (p := ⟨Ba + 1, 0, none⟩) (by show Ba + 1 < _; omega)).trans hcf) hY)
    case hassign =>
      intro l x W m K' hp hK'
      obtain ⟨b, L, c, p, wt, rfl, -⟩ := hp
      gi_wp2
      exact hK'
    case hbody =>
      intro x W o m hp hbl hsz
      obtain ⟨b, L, c, p, wt, rfl, ho, hL1, hL2, hres⟩ := hp
      have hcb3 : (W.putObj (w2.heap.size + 1) o).cell? ⟨Bx, 0, none⟩ = some (.slice none 0 0) := by
        rw [World.cell?_of_block (w := W) (a := ⟨Bx, 0, none⟩) (World.putObj_heap_other (by show Bx ≠ _; omega)), hbl.cell (p := ⟨Bx, 0, none⟩) hltB]; exact hcb2
      have hfb3 : (W.putObj (w2.heap.size + 1) o).frozen? ⟨Bx, 0, none⟩ = false := by
        rw [World.frozen?_of_block (w := W) (a := ⟨Bx, 0, none⟩) (World.putObj_heap_other (by show Bx ≠ _; omega)), hbl.frozen (p := ⟨Bx, 0, none⟩) hltB]; exact hfb2
      have HO3 : Hid (Own (W.putObj (w2.heap.size + 1) o) (w2.heap.size + 2) (.slice b L c) p) := ho.keep (fun q h1 _ => World.putObj_heap_other (by omega))
      have HRES := Lib.hid hres
      have HLp : Hid (L = p.length) := ho.len
      have HBL := Lib.hid hbl
      have hl3 : (W.putObj (w2.heap.size + 1) o).cell? ⟨Lx, 0, none⟩ = some (.int .i64 (ov + 1)) := by
        rw [World.cell?_of_block (w := W) (a := ⟨Lx, 0, none⟩) (World.putObj_heap_other (by show Lx ≠ _; omega)), hbl.cell (p := ⟨Lx, 0, none⟩) (by show Lx < _; omega), HB2.out.cell (p := ⟨Lx, 0, none⟩) (by show Lx < _; omega)]; exact HLC.out
      clear ho hres hbl
      change Code.wpIn _ _ _ _ _ { tmps := #[.slice a n cap, .int .i64 (ov + 1), undef, .pointer (some ⟨Lx, 0, none⟩), .slice none 0 0, .pointer (some ⟨Bx, 0, none⟩), .int .i64 k, (.slice b L c), (.int .i64 wt), .slice a n cap, .int .i64 n, .int .i64 k, .bool true, .int .i64 k, .slice a n cap, .int .i64 k, .func (.func 134) #[] #[.pointer (some ⟨Ba, 0, none⟩), .pointer (some ⟨Ba + 1, 0, none⟩)], (.slice b L c), (.int .i64 wt), u19, u20, u21, u22, u23, u24, u25], defers := [] } _
      by_cases hw : ov < wt
      · have hwg : ov + 1 ≤ wt := by omega
        have hwz : W.heap.size = (W.putObj (w2.heap.size + 1) o).heap.size := by simp
        have hBW : Bx < W.heap.size := by omega
        have hp0 : 0 < p.length := by have := HLp.out; omega
        gi_wp2_with (refine ⟨trivial, fun h => by simp [Fence.wide] at h, ?_⟩; gi_at_call 100; refine (CallsIn.inRound _ (callsIn_wide.2 (clone _ _ _ p _ HO3.out.ints' (by omega) (by omega)))).mono ?_; rintro e3 w3 ⟨b3, c3, rfl, ho3, hb3⟩; obtain ⟨g3, rfl, hg3⟩ := own_head ho3 hp0; have hc3 := (hb3.cell (p := ⟨Bx, 0, none⟩) (by rw [← hwz]; exact hBW)).trans hcb3; have hf3 := (hb3.frozen (p := ⟨Bx, 0, none⟩) (by rw [← hwz]; exact hBW)).trans hfb3; have HO4 := Lib.hid ho3; have HB3 := Lib.hid hb3; clear ho3 hb3)
        have hs3 := HB3.out.size
        have hpk := HRES.out hw
        have hgk := own_lt HO4.out rfl
        rw [← hwz] at hg3 hs3
        have hset : ∀ q, q ≠ Bx → (w3.setCell ⟨Bx, 0, none⟩ (.slice (some ⟨g3, 0, none⟩) L c3)).heap[q]? = w3.heap[q]? := fun q hq => Below.heap_setCell w3 ⟨Bx, 0, none⟩ _ q hq
        have hszs : (w3.setCell ⟨Bx, 0, none⟩ (.slice (some ⟨g3, 0, none⟩) L c3)).heap.size = w3.heap.size := by simp
        have hq3 : ∀ q, q < W.heap.size → w3.heap[q]? = (W.putObj (w2.heap.size + 1) o).heap[q]? := fun q hq => HB3.out.block q (by rw [← hwz]; exact hq)
        refine ⟨(hset _ (by omega)).trans (hq3 _ (by omega)), (hset _ (by omega)).trans (hq3 _ (by omega)), by rw [hszs, ← hwz]; exact hs3, fun q hq1 hq2 => (hset _ (by omega)).trans (hq3 _ hq2), rfl, ⟨g3, L, c3, World.cell?_setCell_same' _ _ _ (by rw [hc3]; rfl), ?_, ?_⟩, ?_, ⟨by rw [hszs]; omega, hsz⟩, fun q hq1 hq2 => ?_⟩
        · rw [← hpk]
          have := HO4.out
          rw [← hwz] at this
          exact ownsRow_keep this (fun r hr => by
            have hgr : g3 = r := by injection hr
            subst hgr
            exact hset _ (by omega))
        · rw [← hpk, ← HLp.out]; omega
        · have hbW : Below w.heap.size w W := HB2.out.trans (HBL.out.mono hz2)
          refine ⟨HB3.out.os.trans hbW.os, HB3.out.tape.trans hbW.tape, HB3.out.output.trans hbW.output, by rw [hszs]; have := hbW.size; omega, fun q hq => ?_⟩
          have := hbW.size
          rw [hset _ (by omega), hq3 _ (by omega), World.putObj_heap_other (by omega)]
          exact hbW.block q hq
        · rw [hset _ hq2, hq3 _ (by omega), World.putObj_heap_other (by omega)]
          exact HBL.out.block q hq1
      · have hw' : wt ≤ ov := by omega
        have hwl : ¬ (ov + 1 ≤ wt) := by omega
        gi_wp2
        exact ⟨Below.refl _ _, _, _, rfl, hw'⟩
    case hdone =>
      intro W hF hb hsz hD
      have HPn : Hid (M.overL (M.ent R) n ov = M.pick gg (n - (k + 1)) (k + 1)) := HP.out.trans (M.pick_no hlt hF)
      have HMn : Hid (Marks w.heap.size (w2.heap.size :: Ds) W) := Marks.cons HM2.out (HM2.out.keep (Bx := Bx) hcb2 (Nat.le_refl _) (fun q hq _ => hb.block q hq)) (Nat.le_refl _) hz2 hD
      have HBn : Hid (Below w.heap.size w W) := HB2.out.trans (hb.mono hz2)
      have hcn := (hb.cell (p := ⟨Bx, 0, none⟩) hltB).trans hcb2
      have hfn := (hb.frozen (p := ⟨Bx, 0, none⟩) hltB).trans hfb2
      clear hF hb hD hca hcf hcb2 hfb2
      go_wp2
      exact HK.out _ _ (Handed.intro (n - (k + 1)) (by omega) (HJ.out _ _ _ ⟨k + 1, w2.heap.size :: Ds, .int .i64 k, u7, u8, .bool true, .int .i64 k, .slice a n cap, .int .i64 k, _, u17, u18, u19, u20, u21, u22, u23, .int .i64 ((k : Int) + 1), u25, by omega, rfl, rfl, HMn.out, HBn.out, hcn, hfn, HPn.out⟩))
    case hstop =>
      intro id x W2 W hp hb hst hD
      obtain ⟨rfl, ⟨g, L, c, h1, h2, h3⟩, h4, ⟨h6, h7⟩, h5⟩ := hst
      have HEq : Hid (M.overL (M.ent R) n ov = gg k) := HP.out.trans (M.pick_yes hlt h3)
      have HMn : Hid (Marks w.heap.size (w2.heap.size :: Ds) W) := Marks.cons HM2.out (HM2.out.keep (Bx := Bx) hcb2 (Nat.le_refl _) h5) (Nat.le_refl _) hz2 hD
      have HOn : Hid (Own W w.heap.size (.slice (some ⟨g, 0, none⟩) L c) (gg k)) := h2.mono (by omega)
      have HB4 := Lib.hid h4
      clear h2 h3 h4 h5 h6 h7 hb hp hD hca hcf hcb2 hfb2
      refine wpIn_wide.2 ?_
      go_wp2
      rw [Exit.noGoto_ret]
      exact leaves_marks (lo := w.heap.size) (fun W' => Own W' w.heap.size (.slice (some ⟨g, 0, none⟩) L c) (gg k) ∧ Below w.heap.size w W')
        (fun A D o hA hlo' hD' => ⟨ownsRow_keep hA.1 (fun r hr => World.putObj_heap_other (by
          have hgr : g = r := by injection hr
          subst hgr
          rintro rfl
          obtain ⟨-, ⟨hv, -⟩ | ⟨g', cap', cur, hv, -, hg', -⟩⟩ := hA.1
          · cases hv
          · injection hv with e1 e2 e3
            injection e1 with e1
            injection e1 with e1
            subst e1
            rw [hD'] at hg'
            cases hg')), ⟨hA.2.os, hA.2.tape, hA.2.output, by have := hA.2.size; simpa using this, fun r hr => (World.putObj_heap_other (by omega)).trans (hA.2.block r hr)⟩⟩)
        (fun A hA => ⟨_, results_tmp rfl _ _ _, ⟨some ⟨g, 0, none⟩, L, c, rfl, by rw [HEq.out]; exact hA.1.mono HW0.out.size, HW0.out.trans (hA.2.mono HW0.out.size)⟩⟩) (w2.heap.size :: Ds) W HMn.out ⟨HOn.out, HB4.out⟩
  · obtain rfl : k = n := by omega
    have HEq : Hid (M.overL (M.ent R) k ov = []) := HP.out.trans M.pick_end
    have HBl := Lib.hid hBl
    have HMk := Lib.hid hMk
    clear hBl hMk hfb
    go_wp2
    rw [Exit.noGoto_ret]
    exact leaves_marks (lo := w.heap.size) (fun W' => Below w.heap.size w W')
      (fun A D o hA hlo' hD' => ⟨hA.os, hA.tape, hA.output, by have := hA.size; simpa using this, fun r hr => (World.putObj_heap_other (by omega)).trans (hA.block r hr)⟩)
      (fun A hA => ⟨_, results_tmp rfl _ _ _, ⟨none, 0, 0, rfl, by rw [HEq.out]; exact own_nil _ _, HW0.out.trans (hA.mono HW0.out.size)⟩⟩) Ds w' HMk.out HBl.out

end Go.Proofs.Ytnnajlehhfmjfaa.V
namespace Go.Proofs.Ytnnajlehhfmjfaa.M
theorem pick_len {g : Nat → List Int} {m : Nat} (h : ∀ v, (g v).length ≤ m) : ∀ c k, (pick g c k).length ≤ m := by
  intro c
  induction c with
  | zero => intro k; exact Nat.zero_le _
  | succ c ih =>
    intro k
    show (if _ then _ else _ : List Int).length ≤ m
    split
    · exact ih _
    · exact h k
theorem posRes_len (R : List (List Int)) : (posRes R).1.length ≤ 11 := by
  unfold posRes
  split
  · next h =>
    obtain ⟨m1, m2, -⟩ := isMat_t (sqB_t h).1
    split
    · simp
    · have := pick_len (g := fun v => grow (ent R) R.length 0 R.length [(v : Int)] 0) (m := 11) (fun v => by
        have := grow_nodes (ent R) R.length 0 R.length [(v : Int)] 0
        simp at this; omega) R.length 0
      exact this
  · simp
end Go.Proofs.Ytnnajlehhfmjfaa.M



namespace Go.Proofs.Ytnnajlehhfmjfaa.M
theorem overL_len (R : List (List Int)) (n : Nat) (y : Int) (h : n ≤ 10) : (overL (ent R) n y).length ≤ 11 := by
  have := pick_len (g := fun v => grow (ent R) n y n [(v : Int)] 0) (m := 11) (fun v => by
    have := grow_nodes (ent R) n y n [(v : Int)] 0
    simp at this; omega) n 0
  exact this
end Go.Proofs.Ytnnajlehhfmjfaa.M
namespace Go.Proofs.Ytnnajlehhfmjfaa.V
open Go.RowKit

/-- The integers of a slice are appended to an owned list, at a step of a region. -/
theorem step_appendN (w : World) {ops : Array Oper} {o : Oper} {a : Act} {K : Act → World → Prop} {Q : Exit → Act → World → Prop} {E : Prop} (hgd : o.guard = none) (s x : Operand)
    (ho : o.op = .call { callee := .builtin .append, args := #[s, x], argTypes := #[30, 30] }) (B : Nat) (v : Value) (l l2 : List Int) (g n m c : Nat) (hn : l.length = n) (hm : l2.length = m) (hs : a.eval s = v) (hown : Own w B v l)
    (hx : a.eval x = .slice (some ⟨g, 0, none⟩) m c) (hy : ∀ i, i < m → w.cell? ⟨g, i, none⟩ = some (.int .i64 (l2.getD i 0))) (hlen : n + m ≤ 1000) (hB : B ≤ w.heap.size)
    (h : ∀ b' c' w', Own w' B (.slice b' (n + m) c') (l ++ l2) → Below B w w' → K (a.put o.dst (.slice b' (n + m) c')) w') :
    if Region.wanted o (yielded ops a.tmps) = true then Oper.wp Try.prog o a w K Q else E := by
  subst hn hm
  obtain ⟨i0, hi, hz0, hz1, hz2⟩ := info_parts info64
  have hw : Region.wanted o (yielded ops a.tmps) = true := by simp [Region.wanted, hgd]
  rw [if_pos hw]
  obtain ⟨v', w', hr, h2, h3, -, -⟩ := run_append_own_at (P := Try.prog) w B 30 o.type 2 i0 (.int .i64 0) 1 8 Try.underlying30 hi hz0 hz1 hz2 rfl (by decide) v l.length (l.map (Value.int .i64)) hown ⟨g, 0, none⟩ l2.length c (l2.map (Value.int .i64)) (by simp) (fun j u hj => by
      rw [Go.WideShapes.add_plain]
      have hj2 : j < l2.length := by
        have := (List.getElem?_eq_some_iff.1 hj).1
        simpa using this
      rw [Nat.zero_add, hy j hj2, ← hj]
      simp [hj2]) (fun u hu => by obtain ⟨x, _, rfl⟩ := List.mem_map.1 hu; rfl) (by unfold maxLen; omega) (by omega) hB
  have ho' : Own w' B v' (l ++ l2) := by
    show w'.ownsRow B _ 1 v' (l ++ l2).length ((l ++ l2).map (Value.int .i64))
    simpa using h2
  obtain ⟨b', c', hv, -⟩ := own_form ho'
  rw [show (l ++ l2).length = l.length + l2.length by simp] at hv
  subst hv
  unfold Oper.wp execOp
  simp only [ho, resolve, invoke, builtin, Sem.run_bind, Sem.run_pure, Result.andThen_ok, List.map_toArray, List.map_cons, List.map_nil, hs, hx, hr]
  exact h b' c' w' ho' ((Below.refl B w).grown h3 hB (fun k hk => (own_lt hown hk).1))

theorem Ints.drop {k : IntKind} {w : World} {q n : Nat} {l : List Int} (h : Ints k w (some ⟨q, 0, none⟩) n l) (i : Nat) (hi : i < n) : Ints k w (some ⟨q, i, none⟩) (n - i) (l.drop i) := by
  obtain ⟨h1, h2, h3⟩ := h
  rcases h3 with h3 | ⟨b, off, hb, hlt, hc⟩
  · omega
  injection hb with hb
  injection hb with e1 e2
  subst e1 e2
  refine ⟨by simp [h1], by omega, .inr ⟨q, i, rfl, hlt, fun t ht => ?_⟩⟩
  have := hc (i + t) (by omega)
  rw [Nat.zero_add] at this
  rw [this]
  simp [List.getD_eq_getElem?_getD]

set_option maxRecDepth 100000 in
set_option maxHeartbeats 1000000 in
theorem drawCycle (g n cap B : Nat) (a : Option Addr) (R : List (List Int)) (w : World) (h : Src w g) (ho : OwnM w B (.slice a n cap) R) (hB : g < B) (hn : n ≤ 200) :
    Calls Try.prog 88 #[.pointer (some ⟨g, 0, none⟩), .slice a n cap] w (DrawV g w) := by
  have hgs := h.lt
  have HS := Lib.hid h
  have HO := Lib.hid ho
  clear h ho
  by_cases hq : M.sqB R = true
  · have HQ := Lib.hid hq
    have HSq := Lib.hid (sq_of HO.out.mat hq)
    clear hq
    go_enter Try.func88, Try.ntmps88
    go_wp2_with fail
    refine (sSquare_b _ _ _ R _ true HQ.out HO.out.mat).mono ?_
    rintro e w' ⟨rfl, q, rfl⟩
    have HS1 : Hid (Src (w.drewN q) g) := HS.out.below ((b_draws w q).mono (by omega))
    have HT1 : Hid (Thr g w (w.drewN q)) := (Thr.refl g w).drewN q
    generalize w.drewN q = w1 at HS1 HT1
    go_wp2_with fail
    refine (next g 4 _ (by decide) HS1.out).mono ?_
    rintro e w2 ⟨x, rfl, hx1, -, hs2, ht2⟩
    have HS2 := Lib.hid hs2
    have HT2 := Lib.hid (HT1.out.trans ht2)
    clear hs2 ht2 HS1 HT1
    by_cases hx0 : 0 < x
    · have hg2 := HS2.out.lt
      have hlit : Hid (∀ i, i < 4 → ∃ x : Int, (Lit.int .i64 x).wf = true ∧ (w2.alloc (.cells #[.int .i64 (-1000000000000000), .int .i64 (-20), .int .i64 (-5), .int .i64 0] 2)).cell? ⟨w2.heap.size, 0 + i, none⟩ = some (.int .i64 x)) := fun i hi => by
        rcases (show i = 0 ∨ i = 1 ∨ i = 2 ∨ i = 3 by omega) with rfl | rfl | rfl | rfl
        · exact ⟨-1000000000000000, by decide, by simp⟩
        · exact ⟨-20, by decide, by simp⟩
        · exact ⟨-5, by decide, by simp⟩
        · exact ⟨0, by decide, by simp⟩
      go_wp2_with fail
      refine (pick g _ 0 4 4 _ (HS2.out.alloc _) (by omega) (by omega) hg2 hlit.out).mono ?_
      rintro e w3 ⟨y, rfl, -, hs3, ht3⟩
      have HS3 := Lib.hid hs3
      have HT3 := Lib.hid ((HT2.out.alloc (Nat.le_of_lt hg2) _).trans ht3)
      have HSq3 : Hid (Sq w3 a n R) := ⟨(HO.out.thr HT3.out hB).mat, HSq.out.2⟩
      clear hs3 ht3 HS2 HT2 hlit hg2
      obtain ⟨l, hl⟩ : ∃ l, l = M.overL (M.ent R) n y := ⟨_, rfl⟩
      have HL := Lib.hid hl
      have hl11 : l.length ≤ 11 := by rw [hl]; exact M.overL_len R n y HSq3.out.2.2.2.2
      clear hl
      go_wp2_with fail
      refine (sOver _ _ _ R y _ HSq3.out).mono ?_
      rintro e w4 ⟨b4, n4, c4, rfl, ho4, hb4⟩
      rw [← HL.out] at ho4
      have hn4 := ho4.len
      have hn11 : n4 ≤ 11 := by omega
      have HN4 := Lib.hid hn4
      have hz3 : w.heap.size ≤ w3.heap.size := HT3.out.below.size
      have HO4 := Lib.hid (ho4.mono hz3)
      have HS4 := Lib.hid (HS3.out.then hb4 HS3.out.lt)
      have HT4 := Lib.hid (HT3.out.then (hb4.mono hz3) (Nat.le_of_lt hgs))
      clear ho4 hb4 HS3 HT3 HSq3 hz3 HL hn4 hl11
      by_cases h0 : n4 = 0
      · subst h0
        have HR4 := Lib.hid (HO.out.thr HT4.out hB)
        go_wp2_with fail
        refine (drawNodes g n cap B a R _ HS4.out HR4.out hB hn).mono ?_
        rintro e w5 ⟨a5, n5, c5, l5, rfl, ho5, hs5, ht5⟩
        have HO5 := Lib.hid (ho5.mono HT4.out.below.size)
        have HS5 := Lib.hid hs5
        have HT5 := Lib.hid (HT4.out.trans ht5)
        clear ho5 hs5 ht5
        go_wp2
        go_ret
        exact ⟨_, _, _, l5, rfl, HO5.out, HS5.out, HT5.out⟩
      · have hn4p : 0 < n4 := by omega
        have hn4i : (0 : Int) < (n4 : Int) := by omega
        have hwn : (Lit.int .i64 (n4 : Int)).wf = true := wf_small _ (by omega) (by omega)
        have HWN := Lib.hid hwn
        clear hwn
        go_wp2_with fail
        refine (next g (n4 : Int) _ HWN.out HS4.out).mono ?_
        rintro e w5 ⟨k, rfl, hk1, hk2, hs5, ht5⟩
        obtain ⟨k, rfl⟩ := Int.eq_ofNat_of_zero_le hk1
        have hk : k < n4 := by omega
        have ho5 := HO4.out.thr ht5 hgs
        obtain ⟨q, rfl, hq⟩ := own_head ho5 (by rw [← HN4.out]; omega)
        have HO5 := Lib.hid ho5
        have HS5 := Lib.hid hs5
        have HT5 := Lib.hid (HT4.out.trans ht5)
        have hcap := (caps_own ho5).1
        clear ho5 hs5 ht5 HO4 HS4 HT4 hk2 hk1
        have HIk := Lib.hid (HO5.out.ints'.drop k hk)
        have hz5 : w.heap.size ≤ w5.heap.size := HT5.out.below.size
        have hki1 : (0 : Int) ≤ (k : Int) := by omega
        have hki2 : (k : Int) ≤ (n4 : Int) := by omega
        have hki3 : (k : Int) ≤ (c4 : Int) := by omega
        have hki4 : (n4 : Int) ≤ (c4 : Int) := by omega
        have hck : ¬ c4 = k := by omega
        go_wp2_with fail
        have HC5 : Hid (∀ i, i < k → w5.cell? ⟨q, i, none⟩ = some (.int .i64 ((l.take k).getD i 0))) := fun i hi => by
          obtain ⟨q2, o2, x, he, -, hx, hc⟩ := HO5.out.ints'.at i (by omega)
          injection he with he
          injection he with e1 e2
          subst e1 e2
          rw [Nat.zero_add] at hc
          rw [hc, hx]
          simp [List.getD_eq_getElem?_getD, List.getElem?_take, hi]
        have hqlt : Hid (∀ i, i < k → q < w5.heap.size) := fun i hi => cell_lt (HC5.out i hi)
        have HLn := Lib.hid HN4.out.symm
        refine wp_region_any (by kernel_rfl) ?_
        change wpAny _ _ _ _ _ _ _ (World.drew _)
        refine wpAny_take (i := 0) (v := ?v0) rfl (by kernel_rfl) (by kernel_rfl) (by kernel_rfl) (fun _ _ _ h => h) (Or.inl ⟨by rfl, ?hy0⟩) ?rest0
        case hy0 => (intro w; go_simp; try with_reducible rfl)
        (try simp only [Act.put, List.setIfInBounds_toArray, List.set_cons_zero, List.set_cons_succ])
        refine wpAny_take (i := 1) (v := ?v1) rfl (by kernel_rfl) (by kernel_rfl) (by kernel_rfl) (fun _ _ _ h => h) (Or.inl ⟨by rfl, ?hy1⟩) ?rest1
        case hy1 => (intro w; go_simp; try with_reducible rfl)
        (try simp only [Act.put, List.setIfInBounds_toArray, List.set_cons_zero, List.set_cons_succ])
        refine wpAny_take (i := 2) (v := ?v2) rfl (by kernel_rfl) (by kernel_rfl) (by kernel_rfl) (fun _ _ _ h => h) (Or.inl ⟨by rfl, ?hy2⟩) ?rest2
        case hy2 => (intro w; go_simp; try with_reducible rfl)
        (try simp only [Act.put, List.setIfInBounds_toArray, List.set_cons_zero, List.set_cons_succ])
        refine wpAny_take (i := 4) (v := ?v4) rfl (by kernel_rfl) (by kernel_rfl) (by kernel_rfl) (fun _ _ _ h => h) (Or.inl ⟨by rfl, ?hy4⟩) ?rest4
        case hy4 => (intro w; go_simp; try with_reducible rfl)
        (try simp only [Act.put, List.setIfInBounds_toArray, List.set_cons_zero, List.set_cons_succ])
        refine wpAny_take (i := 5) (v := ?v5) rfl (by kernel_rfl) (by kernel_rfl) (by kernel_rfl) (fun _ _ _ h => h) (Or.inl ⟨by rfl, ?hy5⟩) ?rest5
        case hy5 => (intro w; go_simp; try with_reducible rfl)
        (try simp only [Act.put, List.setIfInBounds_toArray, List.set_cons_zero, List.set_cons_succ])
        refine wpAny_take (i := 6) (v := ?v6) rfl (by kernel_rfl) (by kernel_rfl) (by kernel_rfl) (fun _ _ _ h => h) (Or.inl ⟨by rfl, ?hy6⟩) ?rest6
        case hy6 => (intro w; go_simp; try with_reducible rfl)
        (try simp only [Act.put, List.setIfInBounds_toArray, List.set_cons_zero, List.set_cons_succ])
        refine wpAny_ready (rs := [3]) (by kernel_rfl) (by simp) (AllReady.cons rfl (fun K hK => ?_) AllReady.nil)
        go_simp
        refine (sOwn _ _ _ (l.drop k) _ (HIk.out.below (Below.refl _ _).drew) (by omega) (by omega)).mono ?_
        rintro e w6 ⟨b6, c6, rfl, ho, hb⟩
        have HO6 := Lib.hid ho
        have HB6 := Lib.hid hb
        clear ho hb
        refine hK _ _ ?_
        clear hK K
        (try simp only [Act.put, List.setIfInBounds_toArray, List.set_cons_zero, List.set_cons_succ])
        refine wpAny_ready (rs := [7]) (by kernel_rfl) (by simp) (AllReady.cons rfl (fun K hK => ?_) AllReady.nil)
        refine step_appendN _ rfl _ _ rfl w5.heap.size _ (l.drop k) (l.take k) q (n4 - k) k _ (by simp [HLn.out]) (by simp [HLn.out]; omega) rfl HO6.out rfl (fun i hi => (HB6.out.cell (p := ⟨q, i, none⟩) (hqlt.out i hi)).trans (HC5.out i hi)) (by omega) HB6.out.size ?_
        intro b7 c7 w7 ho hb
        have HO7 := Lib.hid ho
        have HB7 := Lib.hid hb
        clear ho hb
        refine hK _ _ ?_
        clear hK K
        (try simp only [Act.put, List.setIfInBounds_toArray, List.set_cons_zero, List.set_cons_succ])
        refine wpAny_ready (rs := [8]) (by kernel_rfl) (by simp) (AllReady.cons rfl (fun K hK => ?_) AllReady.nil)
        go_simp
        refine hK _ _ ?_
        clear hK K
        (try simp only [Act.put, List.setIfInBounds_toArray, List.set_cons_zero, List.set_cons_succ])
        refine wpAny_done (by kernel_rfl) ?_ _
        all_goals
          have HB8 : Hid (Below w5.heap.size w5 w7) := ((Below.refl w5.heap.size w5).drew.trans HB6.out).trans HB7.out
          go_wp2
          go_ret
          exact ⟨_, _, _, _, rfl, HO7.out.mono hz5, HS5.out.then HB8.out HS5.out.lt, HT5.out.then (HB8.out.mono hz5) (Nat.le_of_lt hgs)⟩
    · obtain rfl : x = 0 := by omega
      have HR2 := Lib.hid (HO.out.thr HT2.out hB)
      go_wp2_with fail
      refine (drawNodes g n cap B a R _ HS2.out HR2.out hB hn).mono ?_
      rintro e w5 ⟨a5, n5, c5, l5, rfl, ho5, hs5, ht5⟩
      have HO5 := Lib.hid (ho5.mono HT2.out.below.size)
      have HS5 := Lib.hid hs5
      have HT5 := Lib.hid (HT2.out.trans ht5)
      clear ho5 hs5 ht5
      go_wp2
      go_ret
      exact ⟨_, _, _, l5, rfl, HO5.out, HS5.out, HT5.out⟩
  · simp only [Bool.not_eq_true] at hq
    have HQ := Lib.hid hq
    clear hq
    go_enter Try.func88, Try.ntmps88
    go_wp2_with fail
    refine (sSquare_b _ _ _ R _ false HQ.out HO.out.mat).mono ?_
    rintro e w' ⟨rfl, q, rfl⟩
    have HS1 : Hid (Src (w.drewN q) g) := HS.out.below ((b_draws w q).mono (by omega))
    have HT1 : Hid (Thr g w (w.drewN q)) := (Thr.refl g w).drewN q
    generalize w.drewN q = w1 at HS1 HT1
    have HR2 := Lib.hid (HO.out.thr HT1.out hB)
    go_wp2_with fail
    refine (drawNodes g n cap B a R _ HS1.out HR2.out hB hn).mono ?_
    rintro e w5 ⟨a5, n5, c5, l5, rfl, ho5, hs5, ht5⟩
    have HO5 := Lib.hid (ho5.mono HT1.out.below.size)
    have HS5 := Lib.hid hs5
    have HT5 := Lib.hid (HT1.out.trans ht5)
    clear ho5 hs5 ht5
    go_wp2
    go_ret
    exact ⟨_, _, _, l5, rfl, HO5.out, HS5.out, HT5.out⟩

set_option maxRecDepth 100000 in
set_option maxHeartbeats 1000000 in
theorem drawIsCycle (a : Option Addr) (n cap : Nat) (w : World) (h : Bytes w a n) :
    Calls Try.prog 54 #[.slice a n cap] w (DrawnMN w) := by
  have HB := Lib.hid h
  clear h
  go_enter Try.func54, Try.ntmps54
  go_wp2_with fail
  refine (from_ _ _ _ _ HB.out).mono ?_
  rintro e w1 ⟨rfl, hs1, hb1⟩
  have HS1 := Lib.hid hs1
  have HB1 := Lib.hid hb1
  have hg1 := hs1.lt
  clear hs1 hb1
  go_wp2_with fail
  refine (draw3 _ _ HS1.out).mono ?_
  rintro e w2 ⟨a2, n2, c2, R, rfl, hn2, ho, hs2, ht2⟩
  have HO2 := Lib.hid ho
  have HS2 := Lib.hid hs2
  have HB2 := Lib.hid (HB1.out.trans ht2.below)
  clear ho hs2 ht2
  go_wp2_with fail
  refine (drawCycle _ n2 _ _ _ R _ HS2.out HO2.out hg1 hn2).mono ?_
  rintro e w6 ⟨a6, n6, c6, l, rfl, ho6, hs6, ht6⟩
  have HI := Lib.hid ho6.ints'
  have HC := Lib.hid (caps_own ho6)
  have HM := Lib.hid (HO2.out.thr ht6 hg1).mat
  have HB6 := Lib.hid (HB2.out.trans ht6.below)
  clear ho6 hs6 ht6
  go_wp2
  go_ret2
  exact ⟨_, _, _, R, _, _, _, l, rfl, HM.out, HI.out, HC.out.1, HC.out.2, HB6.out⟩
end Go.Proofs.Ytnnajlehhfmjfaa.V

namespace Go.Proofs.Ytnnajlehhfmjfaa.V
open Go.RowKit
theorem cell_blk {w w' : World} {p : Addr} (h : w'.heap[p.block]? = w.heap[p.block]?) : w'.cell? p = w.cell? p := World.cell?_of_block (w := w) h
theorem keep_a {p : Addr} {v : Value} {w w' : World} {B : Nat} {w0 : World} (h : w'.cell? p = some v ∧ Below B w0 w') (hp : p.block < B) (hB : B ≤ w0.heap.size) (o : Obj) : (w'.alloc o).cell? p = some v ∧ Below B w0 (w'.alloc o) := by
  have hz := h.2.size
  exact ⟨((b_alloc w' o).cell (by omega)).trans h.1, h.2.alloc (by omega) o⟩
theorem keep_b {p : Addr} {v : Value} {w' w2 : World} {B : Nat} {w0 : World} (h : w'.cell? p = some v ∧ Below B w0 w') (hp : p.block < B) (hb : Below B w' w2) : w2.cell? p = some v ∧ Below B w0 w2 :=
  ⟨(hb.cell hp).trans h.1, h.2.trans hb⟩
theorem below_r {A : Prop} {B : Nat} {w0 w' : World} (h : A ∧ Below B w0 w') : Below B w0 w' := h.2

/-- The integers of a slice are appended to a new empty list, at a step of a region. -/
theorem step_appendP (w : World) {ops : Array Oper} {o : Oper} {a : Act} {K : Act → World → Prop} {Q : Exit → Act → World → Prop} {E : Prop} (hgd : o.guard = none) (s x : Operand)
    (ho : o.op = .call { callee := .builtin .append, args := #[s, x], argTypes := #[30, 30] }) (B : Nat) (v : Value) (l2 : List Int) (pa : Option Addr) (m c : Nat) (hm : l2.length = m) (hs : a.eval s = v) (hown : Own w B v [])
    (hx : a.eval x = .slice pa m c) (hpa : ∃ ad, pa = some ad ∧ ∀ i, i < m → w.cell? (ad.add i) = some (.int .i64 (l2.getD i 0))) (hlen : m ≤ 1000) (hB : B ≤ w.heap.size)
    (h : ∀ b' c' w', Own w' B (.slice b' m c') l2 → Below B w w' → (∀ k, k < w.heap.size → v.ownBlock ≠ some k → w'.heap[k]? = w.heap[k]?) → K (a.put o.dst (.slice b' m c')) w') :
    if Region.wanted o (yielded ops a.tmps) = true then Oper.wp Try.prog o a w K Q else E := by
  subst hm
  obtain ⟨ad, rfl, hy⟩ := hpa
  obtain ⟨i0, hi, hz0, hz1, hz2⟩ := info_parts info64
  have hw : Region.wanted o (yielded ops a.tmps) = true := by simp [Region.wanted, hgd]
  rw [if_pos hw]
  obtain ⟨v', w', hr, h2, h3, -, -⟩ := run_append_own_at (P := Try.prog) w B 30 o.type 2 i0 (.int .i64 0) 1 8 Try.underlying30 hi hz0 hz1 hz2 rfl (by decide) v 0 [] hown ad l2.length c (l2.map (Value.int .i64)) (by simp) (fun j u hj => by
      have hj2 : j < l2.length := by
        have := (List.getElem?_eq_some_iff.1 hj).1
        simpa using this
      rw [hy j hj2, ← hj]
      simp [hj2]) (fun u hu => by obtain ⟨x, _, rfl⟩ := List.mem_map.1 hu; rfl) (by unfold maxLen; omega) (by omega) hB
  have ho' : Own w' B v' l2 := by
    show w'.ownsRow B _ 1 v' l2.length (l2.map (Value.int .i64))
    simpa using h2
  obtain ⟨b', c', hv, -⟩ := own_form ho'
  subst hv
  unfold Oper.wp execOp
  simp only [ho, resolve, invoke, builtin, Sem.run_bind, Sem.run_pure, Result.andThen_ok, List.map_toArray, List.map_cons, List.map_nil, hs, hx, hr]
  refine h b' c' w' ho' ((Below.refl B w).grown h3 hB (fun k hk => (own_lt hown hk).1)) (fun k hk hne => ?_)
  obtain ⟨g1, g2, g3, g4, g5⟩ := h3
  exact g5 k hk (fun e => hne e.symm)
end Go.Proofs.Ytnnajlehhfmjfaa.V

namespace Go.Proofs.Ytnnajlehhfmjfaa.V
open Go.RowKit
theorem thn {a b c : World} (h1 : Below a.heap.size a b) (h2 : Below b.heap.size b c) : Below a.heap.size a c := h1.trans (h2.mono h1.size)
end Go.Proofs.Ytnnajlehhfmjfaa.V

namespace Go.Proofs.Ytnnajlehhfmjfaa.V
set_option maxRecDepth 100000
open Go.RowKit
set_option maxRecDepth 100000 in
set_option maxHeartbeats 1000000 in
theorem drawMeanOf (a : Option Addr) (n cap : Nat) (w : World) (h : Bytes w a n) :
    Calls Try.prog 19 #[.slice a n cap] w (DrawnMN w) := by
  have HB := Lib.hid h
  clear h
  go_enter Try.func19, Try.ntmps19
  go_wp2_with fail
  refine (drawIsCycle _ _ _ _ HB.out).mono ?_
  rintro e w1 ⟨a2, n2, c2, R, a6, n6, c6, l, rfl, hM, hI, hc1, hc2, hb⟩
  have HM := Lib.hid hM
  have HI := Lib.hid hI
  have HBb := Lib.hid hb
  have HC := Lib.hid (And.intro hc1 hc2)
  clear hM hI hb hc1 hc2
  go_wp2
  go_ret2
  exact ⟨_, _, _, R, _, _, _, l, rfl, HM.out, HI.out, HC.out.1, HC.out.2, HBb.out⟩
end Go.Proofs.Ytnnajlehhfmjfaa.V

namespace Go.Proofs.Ytnnajlehhfmjfaa.V
open Go.RowKit

set_option maxRecDepth 100000 in
set_option maxHeartbeats 400000 in
theorem big (a : Option Addr) (n cap : Nat) (w : World) (h : n ≤ maxLen) :
    Calls Try.prog 13 #[.slice a n cap] w fun e w' => e = .returned (.bool (decide (4096 < n))) ∧ w = w' := by
  unfold maxLen at h
  go_enter Try.func13, Try.ntmps13
  go_wp2
  go_ret
  exact ⟨retB (decide_eq_decide.2 (by omega)), rfl⟩
end Go.Proofs.Ytnnajlehhfmjfaa.V

namespace Go.Proofs.Ytnnajlehhfmjfaa.V
open Go.RowKit

set_option maxRecDepth 100000 in
set_option maxHeartbeats 400000 in
theorem eqInts (a : Option Addr) (n cap : Nat) (l : List Int) (a' : Option Addr) (n' cap' : Nat) (l' : List Int) (w : World) (h : Ints .i64 w a n l) (h' : Ints .i64 w a' n' l') (heq : l = l') :
    Calls Try.prog 28 #[.slice a n cap, .slice a' n' cap'] w fun e w' => e = .returned (.bool true) ∧ ∃ q, w' = w.drewN q := by
  subst heq
  obtain ⟨hl, hm, hr⟩ := h
  obtain ⟨hl', hm', hr'⟩ := h'
  obtain rfl : n = n' := by omega
  unfold maxLen at hm
  clear hm'
  have HL := Lib.hid hl
  clear hl hl'
  go_enter Try.func28, Try.ntmps28
  go_wp2
  go_loopw [5] (fun i wr => ∃ k : Nat, k ≤ n ∧ i = .int .i64 k ∧ ∃ q, wr = w.drewN q) (fun i _ => n - (intOf i).toNat)
  case atStart => exact ⟨0, Nat.zero_le _, rfl, 0, rfl⟩
  case round =>
    obtain ⟨k, hk, rfl, q, rfl⟩ := hrel
    by_cases hlt : k < n
    · rcases hr with h0 | ⟨b, off, rfl, hbl, hc⟩
      · omega
      rcases hr' with h0 | ⟨b', off', rfl, hbl', hc'⟩
      · omega
      have hck := hc k hlt
      have hck' := hc' k hlt
      obtain ⟨x, hx⟩ : ∃ x, x = l.getD k 0 := ⟨_, rfl⟩
      rw [← hx] at hck hck'
      clear hc hx hc'
      have hki : (k : Int) < (n : Int) := by omega
      go_wp2
      go_quiet (fail)
      go_wp2
      go_roundw
      case rel => exact ⟨k + 1, by omega, by go_num, _, rfl⟩
      case measure => simp [intOf]; omega
    · have hkn : k = n := by omega
      subst hkn
      clear hr hr'
      go_wp2
      go_ret
      exact ⟨rfl, q, rfl⟩

set_option maxRecDepth 100000 in
set_option maxHeartbeats 400000 in
theorem copyInts (a : Option Addr) (n cap : Nat) (l : List Int) (w : World) (h : Ints .i64 w a n l) (hs : n ≤ 1048576) :
    Calls Try.prog 25 #[.slice a n cap] w fun e w' => e = .returned (.slice (some ⟨w.heap.size, 0, none⟩) n n) ∧ Own w' w.heap.size (.slice (some ⟨w.heap.size, 0, none⟩) n n) l ∧ Below w.heap.size w w' := by
  obtain ⟨hl, hm, hr⟩ := h
  have hm2 := hm
  unfold maxLen at hm
  have HL := Lib.hid hl
  clear hl
  have hmk := run_make_row' (P := Try.prog) 30 2 (.int .i64 0) 8 Try.underlying30 info64 rfl .i64 .i64 n (by omega) (by omega)
  go_enter Try.func25, Try.ntmps25
  go_wp2
  clear hmk
  go_loopw [4] (fun i wr => ∃ k : Nat, k ≤ n ∧ i = .int .i64 k ∧ Own wr w.heap.size (.slice (some ⟨w.heap.size, 0, none⟩) n n) ((List.range n).map fun j => if j < k then l.getD j 0 else 0) ∧ Below w.heap.size w wr) (fun i _ => n - (intOf i).toNat)
  case atStart => exact ⟨0, Nat.zero_le _, rfl, by simpa using own_made w _ n (Nat.le_refl _) hm2, b_alloc _ _⟩
  case round =>
    obtain ⟨k, hk, rfl, hrow, hb⟩ := hrel
    by_cases hlt : k < n
    · rcases hr with h0 | ⟨b, off, rfl, hbl, hc⟩
      · omega
      have hck := hc k hlt
      obtain ⟨x, hx⟩ : ∃ x, x = l.getD k 0 := ⟨_, rfl⟩
      rw [← hx] at hck
      have hck' : wr.cell? ⟨b, off + k, none⟩ = some (.int .i64 x) := by rw [hb.cell (p := ⟨b, off + k, none⟩) hbl]; exact hck
      have hst : ∃ v, wr.cell? ⟨w.heap.size, k, none⟩ = some v := ⟨_, hrow.cellAt k hlt⟩
      obtain ⟨v, hst⟩ := hst
      have hfz := hrow.frozenAt k
      have HR := Lib.hid hrow
      have HB := Lib.hid hb
      have HX := Lib.hid hx
      clear hc hx hck hrow hb
      go_wp2
      go_roundw
      case rel =>
        refine ⟨k + 1, by omega, by go_num, ?_, HB.out.setCell (Nat.le_refl _) _⟩
        have := Own.set HR.out k x
        rw [M.map_set] at this
        refine (congrArg (Own _ _ _) (List.map_congr_left fun j hj => ?_)).mp this
        by_cases e : j = k
        · subst e; rw [if_pos rfl, if_pos (by omega), HX.out]
        · rw [if_neg e]
          by_cases e2 : j < k
          · rw [if_pos e2, if_pos (by omega)]
          · rw [if_neg e2, if_neg (by omega)]
      case measure => simp [intOf]; omega
    · have hkn : k = n := by omega
      subst hkn
      have HR := Lib.hid hrow
      have HB := Lib.hid hb
      clear hr hrow hb
      go_wp2
      go_ret
      refine ⟨rfl, ?_, HB.out⟩
      refine (congrArg (Own _ _ _) ?_).mp HR.out
      have hl := HL.out
      apply List.ext_getElem
      · simp [hl]
      · intro i h1 h2
        simp [show i < k by omega, h2]

/-- What is left of a size. -/
def SzPost (n : Nat) (left : Int) (w : World) (e : Ending) (w' : World) : Prop := ∃ x : Int, e = .returned (.int .i64 x) ∧ (x < 0 ∨ (0 ≤ x ∧ x + n = left)) ∧ w = w'

set_option maxRecDepth 100000 in
set_option maxHeartbeats 400000 in
theorem szInts (a : Option Addr) (n cap : Nat) (left : Int) (w : World) (hm : n ≤ maxLen) (h1 : 0 ≤ left) (h2 : left ≤ 1048576) :
    Calls Try.prog 57 #[.slice a n cap, .int .i64 left] w (SzPost n left w) := by
  unfold maxLen at hm
  by_cases hlt : left < n
  · go_enter Try.func57, Try.ntmps57
    go_wp2
    go_ret
    exact ⟨_, rfl, .inl (by omega), rfl⟩
  · go_enter Try.func57, Try.ntmps57
    go_wp2
    go_ret
    exact ⟨_, rfl, .inr ⟨by omega, by omega⟩, rfl⟩

/-- What is left of a size: nothing, or all the sizes fit. -/
def SzMPost (n : Nat) (R : List (List Int)) (left : Int) (w : World) (e : Ending) (w' : World) : Prop := ∃ x : Int, e = .returned (.int .i64 x) ∧ (x < 0 ∨ (0 ≤ x ∧ x ≤ left ∧ (n : Int) ≤ left ∧ (M.pre R R.length : Int) ≤ left)) ∧ w = w'

set_option maxRecDepth 100000 in
set_option maxHeartbeats 400000 in
theorem szIntss (a : Option Addr) (n cap : Nat) (R : List (List Int)) (left : Int) (w : World) (h : Mat w a n R) (h1 : 0 ≤ left) (h2 : left ≤ 1048576) :
    Calls Try.prog 23 #[.slice a n cap, .int .i64 left] w (SzMPost n R left w) := by
  have HM := Lib.hid h
  obtain ⟨hl, hm, -⟩ := h
  unfold maxLen at hm
  have HL := Lib.hid hl
  clear hl
  by_cases hlt : left < n
  · go_enter Try.func23, Try.ntmps23
    go_wp2
    go_ret
    exact ⟨_, rfl, .inl (by omega), rfl⟩
  · go_enter Try.func23, Try.ntmps23
    go_wp2
    go_loop [1, 5] (fun x i => ∃ (k : Nat) (y : Int), k ≤ n ∧ i = .int .i64 k ∧ x = .int .i64 y ∧ 0 ≤ y ∧ (M.pre R k : Int) + n + y ≤ left) (fun _ i => n - (intOf i).toNat)
    case atStart => exact ⟨0, left - n, Nat.zero_le _, rfl, rfl, by omega, by rw [M.pre_zero]; omega⟩
    case round =>
      obtain ⟨k, y, hk, rfl, rfl, hy, hp⟩ := hrel
      by_cases hkn : k < n
      · obtain ⟨b, off, ra, rc, L, l, rfl, hbl, hll, hc, hI⟩ := HM.out.at k hkn
        have hps := M.pre_succ R k (by have := HL.out; omega)
        have hLl : L = l.length := hI.1.symm
        rw [← hll, ← hLl] at hps
        have HP := Lib.hid hps
        have hLm := hI.2.1
        clear hI hll hps hLl
        go_wp2_with fail
        refine (szInts _ _ _ _ _ hLm hy (by omega)).mono ?_
        rintro e w' ⟨z, rfl, hz, rfl⟩
        rcases hz with hz | ⟨hz1, hz2⟩
        · go_wp2
          go_ret
          exact ⟨_, rfl, .inl (by omega), rfl⟩
        · go_wp2
          go_round
          case rel => exact ⟨k + 1, z, by omega, by go_num, rfl, hz1, by rw [HP.out]; omega⟩
          case measure => simp [intOf]; omega
      · obtain rfl : k = n := by omega
        go_wp2
        go_ret
        exact ⟨_, rfl, .inr ⟨hy, by omega, by omega, by rw [HL.out]; omega⟩, rfl⟩

end Go.Proofs.Ytnnajlehhfmjfaa.V
