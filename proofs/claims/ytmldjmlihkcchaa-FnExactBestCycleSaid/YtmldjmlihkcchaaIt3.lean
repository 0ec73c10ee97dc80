/- cyclesFrom: the iterator over the cycles that begin at a node. -/
import Derived.Test.YtmldjmlihkcchaaIt2
namespace Go.Proofs.Ytmldjmlihkcchaa.V
open Go Go.RowKit

/-- The cells of a new search, before yield is laid. -/
abbrev newSrch (sa v : Value) : Obj := .cells #[sa, v, .bool false, .bool false, .bool false, .bool false, .bool false, .bool false, .bool false, .bool false, .bool false, .bool false, .nilFunc] 134
theorem newSrch_row (W : World) (sa v : Value) : (W.alloc (newSrch sa v)).rowIs W.heap.size 134 13 (fun i => if i = 0 then sa else if i = 1 then v else if i = 12 then .nilFunc else .bool false) :=
  World.rowIs_alloc W #[sa, v, .bool false, .bool false, .bool false, .bool false, .bool false, .bool false, .bool false, .bool false, .bool false, .bool false, .nilFunc] 134 _ (fun i hi => by
    match i, hi with
    | 0, _ => rfl
    | 1, _ => rfl
    | 2, _ => rfl
    | 3, _ => rfl
    | 4, _ => rfl
    | 5, _ => rfl
    | 6, _ => rfl
    | 7, _ => rfl
    | 8, _ => rfl
    | 9, _ => rfl
    | 10, _ => rfl
    | 11, _ => rfl
    | 12, _ => rfl)
abbrev newSrch2 (sa v : Value) (l : Nat) : Obj := .cells #[sa, v, .bool false, .bool false, .bool false, .bool false, .bool false, .bool false, .bool false, .bool false, .bool false, .bool false, .func (.yield l) #[] #[]] 134
theorem newSrch_srch (W : World) (sa v : Value) (l : Nat) : Srch (W.alloc (newSrch2 sa v l)) W.heap.size sa v (fun _ => false) l :=
  World.rowIs_alloc W #[sa, v, .bool false, .bool false, .bool false, .bool false, .bool false, .bool false, .bool false, .bool false, .bool false, .bool false, .func (.yield l) #[] #[]] 134 _ (fun i hi => by
    match i, hi with
    | 0, _ => rfl
    | 1, _ => rfl
    | 2, _ => rfl
    | 3, _ => rfl
    | 4, _ => rfl
    | 5, _ => rfl
    | 6, _ => rfl
    | 7, _ => rfl
    | 8, _ => rfl
    | 9, _ => rfl
    | 10, _ => rfl
    | 11, _ => rfl
    | 12, _ => rfl)

set_option maxRecDepth 100000 in
set_option maxHeartbeats 4000000 in
theorem cycles1 (ov : Int) (a : Option Addr) (n cap : Nat) (R : List (List Int)) (i l Ba Bf : Nat) (T : Array Value → World → World → Prop) (W1 : World) (hS1 : Sq W1 a n R) (hi : i < n)
    (hca : W1.cell? ⟨Ba, 0, none⟩ = some (.slice a n cap)) (hcf : W1.cell? ⟨Bf, 0, none⟩ = some (.int .i64 i))
    (hY : ∀ x W m, PreC ov W1.heap.size (M.grow (M.ent R) n ov n [(i : Int)] 0) x W → Below W1.heap.size W1 W → YieldAt Fence.wide m Try.prog l x W fun e W' => (e = .returned (.bool true) ∧ Below W.heap.size W W' ∧ GoC ov x) ∨ (e = .returned (.bool false) ∧ T x W W' ∧ W.heap.size ≤ W'.heap.size ∧ ∀ k, W1.heap.size ≤ k → k < W.heap.size → W'.heap[k]? = W.heap[k]?)) :
    Calls Try.prog 138 #[.func (.yield l) #[] #[], .pointer (some ⟨Ba, 0, none⟩), .pointer (some ⟨Bf, 0, none⟩)] W1 fun e W' => (∃ v, e = .returned v) ∧
      (((M.grow (M.ent R) n ov n [(i : Int)] 0).length = 0 ∧ Below W1.heap.size W1 W') ∨ ∃ x W2 W3 S, PreC ov W1.heap.size (M.grow (M.ent R) n ov n [(i : Int)] 0) x W2 ∧ Below W1.heap.size W1 W2 ∧ T x W2 W3 ∧ W1.heap.size ≤ S ∧ S < W2.heap.size ∧ W2.heap.size ≤ W3.heap.size ∧ Chg1 S W3 W') := by
  have HS := Lib.hid hS1
  have HYY := Lib.hid hY
  clear hS1 hY
  have hr := newSrch_row (W1.alloc (.cells #[.int .i64 i] 2)) (.slice a n cap) (.slice (some ⟨W1.heap.size, 0, none⟩) 1 1)
  have hq1 := World.rowIs.cell hr (i := 12) (by omega)
  have hq2 := World.rowIs.frozen hr 12
  have hsr := newSrch_srch (W1.alloc (.cells #[.int .i64 i] 2)) (.slice a n cap) (.slice (some ⟨W1.heap.size, 0, none⟩) 1 1) l
  rw [World.size_alloc] at hq1 hq2 hsr
  have hst : Sem.run Try.prog (store ⟨W1.heap.size + 1, 12, none⟩ (.func (.yield l) #[] #[])) ((W1.alloc (.cells #[.int .i64 i] 2)).alloc (newSrch (.slice a n cap) (.slice (some ⟨W1.heap.size, 0, none⟩) 1 1))) = .ok () (((W1.alloc (.cells #[.int .i64 i] 2)).alloc (newSrch (.slice a n cap) (.slice (some ⟨W1.heap.size, 0, none⟩) 1 1))).setCell ⟨W1.heap.size + 1, 12, none⟩ (.func (.yield l) #[] #[])) := by
    rw [run_store _ _ _ _ _ rfl]
    simp [stored, hq1, hq2]
  unfold newSrch at hst
  have HSR := Lib.hid hsr
  clear hr hsr
  go_enter Try.func138, Try.ntmps138
  go_wp2_with fail
  refine (extend ov a n cap R _ l (W1.heap.size + 1) T W1 HS.out (by omega) HYY.out n W1.heap.size 1 1 [(i : Int)] 0 (fun _ => false) _ ?hb HSR.out ?ho ?hn ?hd (by omega) (by omega) (by omega) (by omega) ?hu (fun _ => rfl)).mono ?_
  case hb => exact ((Below.refl _ _).alloc (Nat.le_refl _) _).alloc (by simp) _
  case ho =>
    have h0 : Own (W1.alloc (.cells #[.int .i64 i] 2)) W1.heap.size (.slice (some ⟨W1.heap.size, 0, none⟩) 1 1) [(i : Int)] := World.ownsRow_lit W1 #[.int .i64 i] 1 (Nat.le_refl _) (by decide) rfl
    refine h0.keep fun k _ hk => ?_
    have hk' : k < W1.heap.size + 1 := by simpa using hk
    exact Below.heap_alloc _ _ _ (by simpa using hk')
  case hn => simp [M.nodesB, M.inN]; omega
  case hd => exact M.diffB_of fun q hq => by simp at hq; subst hq; rfl
  case hu =>
    intro q hq hne
    have hne' : ¬ q = i := by simpa [M.vx] using hne
    have : ¬ (q : Int) = (i : Int) := by omega
    simp [M.hasB, this]
  rintro e w2 (⟨rfl, hnil, -, hb⟩ | ⟨rfl, -, x, W2, W3, q1, q2, q3, q4, q5, q6⟩)
  · go_wp2
    go_end0
    exact ⟨⟨_, rfl⟩, .inl ⟨hnil, hb⟩⟩
  · go_wp2
    go_end0
    exact ⟨⟨_, rfl⟩, .inr ⟨x, W2, W3, _, q1, q2, q3, by omega, q4, q5, q6⟩⟩

set_option maxRecDepth 100000 in
set_option maxHeartbeats 1000000 in
theorem cyclesFrom_ (v : Value) (i : Int) (w : World) (hv : ∃ a n c, v = .slice a n c) :
    Calls Try.prog 104 #[v, .int .i64 i] w fun e w' => e = .returned (.func (.func 138) #[] #[.pointer (some ⟨w.heap.size, 0, none⟩), .pointer (some ⟨w.heap.size + 1, 0, none⟩)]) ∧ w' = (w.alloc (.cells #[v] 24)).alloc (.cells #[.int .i64 i] 2) := by
  obtain ⟨a, n, c, rfl⟩ := hv
  go_enter Try.func104, Try.ntmps104
  go_wp2
  go_ret
  exact ⟨rfl, rfl⟩
end Go.Proofs.Ytmldjmlihkcchaa.V
