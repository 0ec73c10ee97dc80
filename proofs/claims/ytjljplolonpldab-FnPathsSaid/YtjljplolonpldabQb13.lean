/- Texts laid together: It3, It4, Gr1, Gr2, It5. -/
import Derived.Test.YtjljplolonpldabQb12
import Derived.Test.YtjljplolonpldabQb1
import Derived.Test.YtjljplolonpldabQb9
import Derived.Test.YtjljplolonpldabQb4
import Derived.Test.YtjljplolonpldabQb5
import Derived.WalkMore
import Derived.Deep.LoopGhost
import Derived.Scope
set_option linter.unusedSimpArgs false
set_option linter.unusedVariables false
set_option linter.unusedSectionVars false
namespace Go.Proofs.Ytjljplolonpldab.V
open Go Go.RowKit

/-- The cells of a new search, before yield is laid. -/
abbrev newSrch (sa v : Value) : Obj := .cells #[sa, v, .bool false, .bool false, .bool false, .bool false, .bool false, .bool false, .bool false, .bool false, .bool false, .bool false, .nilFunc] 123
theorem newSrch_row (W : World) (sa v : Value) : (W.alloc (newSrch sa v)).rowIs W.heap.size 123 13 (fun i => if i = 0 then sa else if i = 1 then v else if i = 12 then .nilFunc else .bool false) :=
  World.rowIs_alloc W #[sa, v, .bool false, .bool false, .bool false, .bool false, .bool false, .bool false, .bool false, .bool false, .bool false, .bool false, .nilFunc] 123 _ (fun i hi => by
    match i, hi with
    | 0, _ => rfl
    | 1, _ => rfl
    | 2, _ => rfl
    | 3, _ => rfl
    | 4, _ => rfl
    | 5, _ => rfl
    | 6, _ => rfl
    | 7, _ => rfl
    | 8, _ => rfl
    | 9, _ => rfl
    | 10, _ => rfl
    | 11, _ => rfl
    | 12, _ => rfl)
abbrev newSrch2 (sa v : Value) (l : Nat) : Obj := .cells #[sa, v, .bool false, .bool false, .bool false, .bool false, .bool false, .bool false, .bool false, .bool false, .bool false, .bool false, .func (.yield l) #[] #[]] 123
theorem newSrch_srch (W : World) (sa v : Value) (l : Nat) : Srch (W.alloc (newSrch2 sa v l)) W.heap.size sa v (fun _ => false) l :=
  World.rowIs_alloc W #[sa, v, .bool false, .bool false, .bool false, .bool false, .bool false, .bool false, .bool false, .bool false, .bool false, .bool false, .func (.yield l) #[] #[]] 123 _ (fun i hi => by
    match i, hi with
    | 0, _ => rfl
    | 1, _ => rfl
    | 2, _ => rfl
    | 3, _ => rfl
    | 4, _ => rfl
    | 5, _ => rfl
    | 6, _ => rfl
    | 7, _ => rfl
    | 8, _ => rfl
    | 9, _ => rfl
    | 10, _ => rfl
    | 11, _ => rfl
    | 12, _ => rfl)

set_option maxRecDepth 100000 in
set_option maxHeartbeats 4000000 in
theorem cycles1 (ov : Int) (a : Option Addr) (n cap : Nat) (R : List (List Int)) (i l Ba Bf : Nat) (T : Array Value → World → World → Prop) (W1 : World) (hS1 : Sq W1 a n R) (hi : i < n)
    (hca : W1.cell? ⟨Ba, 0, none⟩ = some (.slice a n cap)) (hcf : W1.cell? ⟨Bf, 0, none⟩ = some (.int .i64 i))
    (hY : ∀ x W m, PreC ov W1.heap.size (M.grow (M.ent R) n ov n [(i : Int)] 0) x W → Below W1.heap.size W1 W → YieldAt Fence.wide m Try.prog l x W fun e W' => (e = .returned (.bool true) ∧ Below W.heap.size W W' ∧ GoC ov x) ∨ (e = .returned (.bool false) ∧ T x W W' ∧ W.heap.size ≤ W'.heap.size ∧ ∀ k, W1.heap.size ≤ k → k < W.heap.size → W'.heap[k]? = W.heap[k]?)) :
    Calls Try.prog 136 #[.func (.yield l) #[] #[], .pointer (some ⟨Ba, 0, none⟩), .pointer (some ⟨Bf, 0, none⟩)] W1 fun e W' => (∃ v, e = .returned v) ∧
      (((M.grow (M.ent R) n ov n [(i : Int)] 0).length = 0 ∧ Below W1.heap.size W1 W') ∨ ∃ x W2 W3 S, PreC ov W1.heap.size (M.grow (M.ent R) n ov n [(i : Int)] 0) x W2 ∧ Below W1.heap.size W1 W2 ∧ T x W2 W3 ∧ W1.heap.size ≤ S ∧ S < W2.heap.size ∧ W2.heap.size ≤ W3.heap.size ∧ Chg1 S W3 W') := by
  have HS := Lib.hid hS1
  have HYY := Lib.hid hY
  clear hS1 hY
  have hr := newSrch_row (W1.alloc (.cells #[.int .i64 i] 2)) (.slice a n cap) (.slice (some ⟨W1.heap.size, 0, none⟩) 1 1)
  have hq1 := World.rowIs.cell hr (i := 12) (by omega)
  have hq2 := World.rowIs.frozen hr 12
  have hsr := newSrch_srch (W1.alloc (.cells #[.int .i64 i] 2)) (.slice a n cap) (.slice (some ⟨W1.heap.size, 0, none⟩) 1 1) l
  rw [World.size_alloc] at hq1 hq2 hsr
  have hst : Sem.run Try.prog (store ⟨W1.heap.size + 1, 12, none⟩ (.func (.yield l) #[] #[])) ((W1.alloc (.cells #[.int .i64 i] 2)).alloc (newSrch (.slice a n cap) (.slice (some ⟨W1.heap.size, 0, none⟩) 1 1))) = .ok () (((W1.alloc (.cells #[.int .i64 i] 2)).alloc (newSrch (.slice a n cap) (.slice (some ⟨W1.heap.size, 0, none⟩) 1 1))).setCell ⟨W1.heap.size + 1, 12, none⟩ (.func (.yield l) #[] #[])) := by
    rw [run_store _ _ _ _ _ rfl]
    simp [stored, hq1, hq2]
  unfold newSrch at hst
  have HSR := Lib.hid hsr
  clear hr hsr
  go_enter Try.func136, Try.ntmps136
  go_wp2_with fail
  refine (extend ov a n cap R _ l (W1.heap.size + 1) T W1 HS.out (by omega) HYY.out n W1.heap.size 1 1 [(i : Int)] 0 (fun _ => false) _ ?hb HSR.out ?ho ?hn ?hd (by omega) (by omega) (by omega) (by omega) ?hu (fun _ => rfl)).mono ?_
  case hb => exact ((Below.refl _ _).alloc (Nat.le_refl _) _).alloc (by simp) _
  case ho =>
    have h0 : Own (W1.alloc (.cells #[.int .i64 i] 2)) W1.heap.size (.slice (some ⟨W1.heap.size, 0, none⟩) 1 1) [(i : Int)] := World.ownsRow_lit W1 #[.int .i64 i] 1 (Nat.le_refl _) (by decide) rfl
    refine h0.keep fun k _ hk => ?_
    have hk' : k < W1.heap.size + 1 := by simpa using hk
    exact Below.heap_alloc _ _ _ (by simpa using hk')
  case hn => simp [M.nodesB, M.inN]; omega
  case hd => exact M.diffB_of fun q hq => by simp at hq; subst hq; rfl
  case hu =>
    intro q hq hne
    have hne' : ¬ q = i := by simpa [M.vx] using hne
    have : ¬ (q : Int) = (i : Int) := by omega
    simp [M.hasB, this]
  rintro e w2 (⟨rfl, hnil, -, hb⟩ | ⟨rfl, -, x, W2, W3, q1, q2, q3, q4, q5, q6⟩)
  · go_wp2
    go_end0
    exact ⟨⟨_, rfl⟩, .inl ⟨hnil, hb⟩⟩
  · go_wp2
    go_end0
    exact ⟨⟨_, rfl⟩, .inr ⟨x, W2, W3, _, q1, q2, q3, by omega, q4, q5, q6⟩⟩

set_option maxRecDepth 100000 in
set_option maxHeartbeats 1000000 in
theorem cyclesFrom_ (v : Value) (i : Int) (w : World) (hv : ∃ a n c, v = .slice a n c) :
    Calls Try.prog 121 #[v, .int .i64 i] w fun e w' => e = .returned (.func (.func 136) #[] #[.pointer (some ⟨w.heap.size, 0, none⟩), .pointer (some ⟨w.heap.size + 1, 0, none⟩)]) ∧ w' = (w.alloc (.cells #[v] 22)).alloc (.cells #[.int .i64 i] 2) := by
  obtain ⟨a, n, c, rfl⟩ := hv
  go_enter Try.func121, Try.ntmps121
  go_wp2
  go_ret
  exact ⟨rfl, rfl⟩
end Go.Proofs.Ytjljplolonpldab.V

namespace Go.Proofs.Ytjljplolonpldab.V
open Go Go.RowKit

def mark (D : Nat) : Deferred := { target := .collected D, args := #[] }
/-- The marks Ds lie, all different, at or past lo. -/
def Marks (lo : Nat) (Ds : List Nat) (W : World) : Prop := Ds.Nodup ∧ ∀ D ∈ Ds, lo ≤ D ∧ W.heap[D]? = some (.deferred (some []))
theorem Marks.nil (lo : Nat) (W : World) : Marks lo [] W := ⟨List.nodup_nil, fun D h => by cases h⟩
theorem Marks.keep {lo Bx N : Nat} {Ds : List Nat} {A B : World} {v : Value} (h : Marks lo Ds A) (hx : A.cell? ⟨Bx, 0, none⟩ = some v) (hN : A.heap.size ≤ N) (hk : ∀ k, k < N → k ≠ Bx → B.heap[k]? = A.heap[k]?) : Marks lo Ds B :=
  ⟨h.1, fun D hD => by
    obtain ⟨h1, h2⟩ := h.2 D hD
    have hlt := (Array.getElem?_eq_some_iff.1 h2).1
    refine ⟨h1, (hk D (by omega) ?_).trans h2⟩
    rintro rfl
    simp [World.cell?, h2] at hx⟩
theorem Marks.cons {lo D : Nat} {Ds : List Nat} {A B : World} (h : Marks lo Ds A) (hB : Marks lo Ds B) (hD : A.heap.size ≤ D) (hlo : lo ≤ D) (hd : B.heap[D]? = some (.deferred (some []))) : Marks lo (D :: Ds) B :=
  ⟨List.nodup_cons.2 ⟨fun hm => by
    have := (Array.getElem?_eq_some_iff.1 (h.2 D hm).2).1
    omega, h.1⟩, fun E hE => by
    rcases List.mem_cons.1 hE with rfl | hE
    · exact ⟨hlo, hd⟩
    · exact hB.2 E hE⟩
theorem leaves_marks {P : Program} {n : Nat} {fn : Func} {tmps : Array Value} {R : Ending → World → Prop} {lo : Nat} (Good : World → Prop) (hG : ∀ W D o, Good W → lo ≤ D → W.heap[D]? = some (.deferred (some [])) → Good (W.putObj D o))
    (hfin : ∀ W, Good W → LeavesInM Fence.wide n P fn tmps R [] .returning W) (Ds : List Nat) : ∀ W, Marks lo Ds W → Good W → LeavesInM Fence.wide n P fn tmps R (Ds.map mark) .returning W := by
  induction Ds with
  | nil => intro W _ hg; exact hfin W hg
  | cons D Ds ih =>
    intro W hm hg
    obtain ⟨h1, h2⟩ := hm.2 D (by simp)
    refine ⟨by simp, .inl ⟨D, _, rfl, run_takeDeferred h2, ih _ ?_ (hG _ _ _ hg h1 h2)⟩⟩
    refine ⟨(List.nodup_cons.1 hm.1).2, fun E hE => ?_⟩
    obtain ⟨q1, q2⟩ := hm.2 E (List.mem_cons_of_mem _ hE)
    refine ⟨q1, (World.putObj_heap_other ?_).trans q2⟩
    rintro rfl
    exact (List.nodup_cons.1 hm.1).1 hE
end Go.Proofs.Ytjljplolonpldab.V

namespace Go.Proofs.Ytjljplolonpldab.V
open Go.RowKit

theorem keepg {w0 w w' : World} {B : Nat} {p q : Addr} {x y : Value} (h : w.cell? p = some x ∧ w.cell? q = some y ∧ Below B w0 w) (hp : p.block < B) (hq : q.block < B) (hb : Below B w w') : w'.cell? p = some x ∧ w'.cell? q = some y ∧ Below B w0 w' :=
  ⟨(hb.cell hp).trans h.1, (hb.cell hq).trans h.2.1, h.2.2.trans hb⟩
theorem belowg {w0 w : World} {B : Nat} {P Q : Prop} (h : P ∧ Q ∧ Below B w0 w) : Below B w0 w := h.2.2
set_option maxRecDepth 100000 in
set_option maxHeartbeats 4000000 in
theorem sGrow (a : Option Addr) (n cap : Nat) (R : List (List Int)) (over : Int) (f : Nat) : ∀ (b : Option Addr) (N c : Nat) (p : List Int) (wt : Int) (B : Nat) (w : World), Sq w a n R → Own w B (.slice b N c) p → M.nodesB n p = true → M.diffB p = true → 1 ≤ N → n + 1 ≤ f + N → -1000001000000 * (N : Int) ≤ wt → wt ≤ 1000001000000 * (N : Int) → B ≤ w.heap.size →
    Calls Try.prog 123 #[.slice a n cap, .slice b N c, .int .i64 wt, .int .i64 over] w fun e w' => ∃ b' n' c', e = .returned (.slice b' n' c') ∧ Own w' B (.slice b' n' c') (M.grow (M.ent R) n over f p wt) ∧ Below w.heap.size w w' := by
  induction f with
  | zero =>
    intro b N c p wt B w hS hO hn hd h1 hf hw1 hw2 hB
    have := M.diffB_len hn hd
    have := hO.len
    omega
  | succ f IH =>
    intro b N c p wt B w hS hO hn hd h1 hf hw1 hw2 hB
    obtain ⟨N, rfl⟩ : ∃ m, N = m + 1 := ⟨N - 1, by omega⟩
    have HIH := Lib.hid IH
    have hpl : p.length = N + 1 := hO.len.symm
    have hle := M.diffB_len hn hd
    have hn10 := hS.2.2.2.2
    have h0 := M.nodesB_at hn (k := 0) (by omega)
    have hN := M.nodesB_at hn (k := N) (by omega)
    obtain ⟨pb, po, x0, rfl, -, hx0, c0⟩ := hO.ints'.at 0 (by omega)
    obtain ⟨pb2, po2, x1, hpe, -, hx1, c1⟩ := hO.ints'.at N (by omega)
    injection hpe with hpe
    injection hpe with e1 e2 e3
    subst e1 e2
    rw [← hx0] at h0
    rw [← hx1] at hN
    obtain ⟨i, rfl⟩ := Int.eq_ofNat_of_zero_le h0.1
    obtain ⟨j, rfl⟩ := Int.eq_ofNat_of_zero_le hN.1
    have hi : i < n := by omega
    have hj : j < n := by omega
    have hvi : M.vx p 0 = i := by unfold M.vx; rw [← hx0]; simp
    have hvj : M.lastV p = j := by unfold M.lastV M.vx; rw [hpl, Nat.add_sub_cancel, ← hx1]; simp
    obtain ⟨ab, ao, ra, rc, L, lr, rfl, -, hlr, cr, hIr⟩ := hS.1.at i hi
    have hL : L = n := by rw [← hIr.1, hlr]; exact hS.2.1.2 i hi
    subst hL
    obtain ⟨rb, ro, z, rfl, -, hz, cz⟩ := hIr.at j hj
    have hze : z = M.ent R i j := by rw [hz, hlr]; rfl
    have hzs := hS.2.2.1 i j hi hj
    rw [← hze] at hzs
    unfold M.Sm at hzs
    have HS := Lib.hid hS
    have HO := Lib.hid hO
    have HNd := Lib.hid hn
    have HDf := Lib.hid hd
    have HPl := Lib.hid hpl
    have HVi := Lib.hid hvi
    have HVj := Lib.hid hvj
    have ht1 : ((N : Int) + 1 - 1) = (N : Int) := by omega
    have hNb : N ≤ 10 := by omega
    simp only [Nat.add_zero] at c0
    have HC : Hid (M.clB (M.ent R) over p wt = (decide (z ≠ -1000000000000000) && decide (over < wt + z))) := by show _ = _; unfold M.clB; rw [hvi, hvj, ← hze]
    clear hlr hIr hz hze hx0 hx1 h0 hN hvi hvj hn hd IH e3 hpl hS hO
    have HCR := Lib.hid cr
    have HCZ := Lib.hid cz
    clear cr cz
    go_enter Try.func123, Try.ntmps123
    go_wp2
    go_quiet (fail)
    generalize hwq : World.drewN w _ = wq
    have hbq : Below w.heap.size w wq := by rw [← hwq]; exact b_draws w _
    have cr := (hbq.cell (cell_lt HCR.out)).trans HCR.out
    have cz := (hbq.cell (cell_lt HCZ.out)).trans HCZ.out
    have HBq := Lib.hid hbq
    clear hwq c0 c1 hbq
    by_cases hc : M.clB (M.ent R) over p wt = true
    · have hcc := hc
      rw [HC.out, Bool.and_eq_true, decide_eq_true_eq, decide_eq_true_eq] at hcc
      obtain ⟨g1, g2⟩ := hcc
      have g3 : (z != -1000000000000000) = true := by simpa using g1
      have HG := Lib.hid (M.grow_yes (A := M.ent R) (n := L) (f := f) hc)
      clear hc g1
      go_wp2
      go_ret
      exact ⟨_, _, _, rfl, by rw [HG.out]; exact HO.out.below HBq.out, HBq.out⟩
    · simp only [Bool.not_eq_true] at hc
      have HG := Lib.hid (M.grow_no (A := M.ent R) (n := L) (f := f) hc)
      have hi1 : IntKind.i64.wrap ((i : Int) + 1) = (i : Int) + 1 := IntWalk.i64_in _ (by omega)
      obtain ⟨g, hg⟩ : ∃ g, g = M.stepG (M.ent R) L over f p wt := ⟨_, rfl⟩
      have HGg := Lib.hid hg
      rw [← hg, HVi.out] at HG
      have hgd : z ≠ -1000000000000000 → decide (over < wt + z) = false := fun hz => by
        rw [HC.out] at hc
        simpa [hz] using hc
      clear hc hg
      by_cases hzb : z = -1000000000000000
      · subst hzb
        clear hgd
        go_wp2
        go_loopw [11, 12] (fun v _ wr => ∃ k : Nat, i + 1 ≤ k ∧ k ≤ L ∧ v = .int .i64 k ∧ Hid (M.pick g (L - (i + 1)) (i + 1) = M.pick g (L - k) k) ∧ Below w.heap.size w wr) (fun v _ _ => L - (intOf v).toNat)
        case atStart => exact ⟨i + 1, by omega, by omega, by go_num, rfl, HBq.out⟩
        case round =>
          obtain ⟨k, hk1, hk2, rfl, HK, hb⟩ := hrel
          have HB1 := Lib.hid hb
          have hz1 : w.heap.size ≤ wr.heap.size := hb.size
          clear hb
          by_cases hk : k < L
          · have hki : (k : Int) < (L : Int) := by omega
            obtain ⟨ab', ao', ra', rc', L', lr, e', -, hlr, ck, hIr⟩ := (HS.out.below HB1.out).1.at k hk
            injection e' with e'
            injection e' with e1 e2 e3
            subst e1 e2
            have hL' : L' = L := by rw [← hIr.1, hlr]; exact HS.out.2.1.2 k hk
            subst hL'
            obtain ⟨rb', ro', y, rfl, -, hy, cy⟩ := hIr.at j hj
            have hye : y = M.ent R k j := by rw [hy, hlr]; rfl
            have hys := HS.out.2.2.1 k j hk hj
            rw [← hye] at hys
            unfold M.Sm at hys
            have HYe := Lib.hid hye
            clear hlr hIr hy hye e3
            by_cases hyb : y = -1000000000000000
            · have hg0 : (g k).length = 0 := by rw [HGg.out]; exact M.step_bot (by rw [HVj.out, ← HYe.out]; exact hyb)
              have HKn : Hid (M.pick g (L' - (i + 1)) (i + 1) = M.pick g (L' - (k + 1)) (k + 1)) := HK.out.trans (M.pick_no hk hg0)
              subst hyb
              clear hg0
              go_wp2
              go_roundw
              case rel => exact ⟨k + 1, by omega, by omega, by go_num, HKn, HB1.out⟩
              case measure => simp [intOf]; omega
            · have gy : (y == -1000000000000000) = false := by simpa using hyb
              have HIr := Lib.hid (HO.out.below HB1.out).ints'
              obtain ⟨hb0, hhb⟩ : ∃ hb0, hb0 = M.hasB p (k : Int) := ⟨_, rfl⟩
              have HHb := Lib.hid hhb
              clear hhb
              cases hb0 with
              | true =>
                have hg0 : (g k).length = 0 := by rw [HGg.out]; exact M.step_has HHb.out.symm
                have HKn : Hid (M.pick g (L' - (i + 1)) (i + 1) = M.pick g (L' - (k + 1)) (k + 1)) := HK.out.trans (M.pick_no hk hg0)
                clear hg0
                go_wp2_with (go_at_call 138; refine (sHas _ _ _ p _ _ (by exact HIr.out)).mono ?_; rintro e w' ⟨rfl, rfl⟩; rw [← HHb.out])
                go_roundw
                case rel => exact ⟨k + 1, by omega, by omega, by go_num, HKn, HB1.out⟩
                case measure => simp [intOf]; omega
              | false =>
                obtain ⟨t, ht⟩ : ∃ t, t = M.grow (M.ent R) L' over f (p ++ [(k : Int)]) (wt + y) := ⟨_, rfl⟩
                have HTt := Lib.hid ht
                have HGk : Hid (g k = t) := by show _ = _; rw [HGg.out, M.step_go (by rw [HVj.out, ← HYe.out]; exact hyb) HHb.out.symm, HVj.out, ← HYe.out]; exact ht.symm
                have HN2 := Lib.hid (M.nodesB_snoc HNd.out hk)
                have HD2 := Lib.hid (M.diffB_snoc HDf.out HHb.out.symm)
                have HIq : Hid (Ints .i64 wr.drew (some ⟨pb, po, none⟩) (N + 1) p) := HIr.out.below (Below.refl _ _).drew
                have hwy : IntKind.i64.wrap (wt + y) = wt + y := IntWalk.i64_in _ (by omega)
                have hA := cell_lt ck
                have hBb := cell_lt cy
                clear ht
                go_wp2_with (go_at_call 138; refine (sHas _ _ _ p _ _ (by exact HIr.out)).mono ?_; rintro e w' ⟨rfl, rfl⟩; rw [← HHb.out])
                go_region_held3 (fun w' => w'.cell? ⟨ab, ao + k, none⟩ = some (.slice (some ⟨rb', ro', none⟩) L' rc') ∧ w'.cell? ⟨rb', ro' + j, none⟩ = some (.int .i64 y) ∧ Below wr.heap.size wr w')
                  (first
                    | exact ⟨ck, cy, (Below.refl _ _).drew⟩
                    | exact keepg ‹_ ∧ _ ∧ Below _ _ _› hA hBb HBa.out
                    | exact keepg ‹_ ∧ _ ∧ Below _ _ _› hA hBb (HBo.out.mono (belowg ‹_ ∧ _ ∧ Below _ _ _›).size)
                    | exact keepg ‹_ ∧ _ ∧ Below _ _ _› hA hBb (HBc.out.mono (belowg ‹_ ∧ _ ∧ Below _ _ _›).size)
                    | exact keepg ‹_ ∧ _ ∧ Below _ _ _› hA hBb ((b_alloc _ _).mono (belowg ‹_ ∧ _ ∧ Below _ _ _›).size))
                  (first
                    | (go_at_call 134; refine (sOwn _ _ _ p _ ?hh ?h1 ?h2).mono ?_; (case hh => (first | exact HIq.out | exact HIq.out.below (b_alloc _ _))); (case h1 => omega); (case h2 => omega); rintro e w1 ⟨b1, c1, rfl, ho, hb⟩; have HO1 := Lib.hid ho; have HBo := Lib.hid hb; clear ho hb)
                    | (go_at_call 123; refine (HIH.out _ (N + 1 + 1) _ _ (wt + y) wr.heap.size _ ?hs HO2.out HN2.out HD2.out (by omega) (by omega) (by omega) (by omega) ?hz).mono ?_; (case hs => exact HS.out.below (HB1.out.trans ((belowg ‹_ ∧ _ ∧ Below _ _ _›).mono hz1))); (case hz => exact (belowg ‹_ ∧ _ ∧ Below _ _ _›).size); rintro e w3 ⟨b3, n3, c3, rfl, ho, hb⟩; have HO3 := Lib.hid ho; have HBc := Lib.hid hb; clear ho hb)
                    | (refine step_append1 _ rfl _ _ rfl wr.heap.size _ p (k : Int) _ (N + 1) HPl.out rfl ?ho rfl ?hy ?hl ?hb ?_; (case ho => (first | exact HO1.out.mono (Nat.le_refl _) | exact HO1.out.mono (by simp) | exact (HO1.out.below (b_alloc _ _)).mono (Nat.le_refl _))); (case hy => (first | (simp; done) | exact new_kept (wd := wr.drew) HBo.out)); (case hl => omega); (case hb => exact (belowg ‹_ ∧ _ ∧ Below _ _ _›).size); intro b2 c2 w2 ho hb; have HO2 := Lib.hid ho; have HBa := Lib.hid hb; clear ho hb))
                all_goals
                  have hbz : Below wr.heap.size wr w3 := by
                    first
                      | exact belowg ‹_ ∧ _ ∧ Below _ _ _›
                      | exact (belowg ‹_ ∧ _ ∧ Below wr.heap.size wr w2›).trans (HBc.out.mono (belowg ‹_ ∧ _ ∧ Below wr.heap.size wr w2›).size)
                  have HBz := Lib.hid (HB1.out.trans (hbz.mono hz1))
                  rw [← HTt.out] at HO3
                  have hlt := HO3.out.len
                  clear hbz
                  by_cases hn3 : n3 = 0
                  · subst hn3
                    have HKn : Hid (M.pick g (L' - (i + 1)) (i + 1) = M.pick g (L' - (k + 1)) (k + 1)) := HK.out.trans (M.pick_no hk (by rw [HGk.out]; exact hlt.symm))
                    clear hlt
                    go_wp2
                    go_roundw
                    case rel => exact ⟨k + 1, by omega, by omega, by go_num, HKn, HBz.out⟩
                    case measure => simp [intOf]; omega
                  · have HE : Hid (M.grow (M.ent R) L' over (f + 1) p wt = t) := HG.out.trans (HK.out.trans ((M.pick_yes hk (by rw [HGk.out]; omega)).trans HGk.out))
                    have hn3p : 0 < n3 := by omega
                    clear hlt
                    go_wp2
                    go_ret
                    exact ⟨_, _, _, rfl, by rw [HE.out]; exact HO3.out.mono (Nat.le_trans hB hz1), HBz.out⟩
          · obtain rfl : k = L := by omega
            have HE : Hid (M.grow (M.ent R) k over (f + 1) p wt = []) := HG.out.trans (HK.out.trans M.pick_end)
            go_wp2
            go_ret
            exact ⟨_, _, _, rfl, by rw [HE.out]; exact own_nil _ _, HB1.out⟩
      · have g3 : (z != -1000000000000000) = true := by simpa using hzb
        have g4 := hgd hzb
        clear hgd hzb
        go_wp2
        go_loopw [11, 12] (fun v _ wr => ∃ k : Nat, i + 1 ≤ k ∧ k ≤ L ∧ v = .int .i64 k ∧ Hid (M.pick g (L - (i + 1)) (i + 1) = M.pick g (L - k) k) ∧ Below w.heap.size w wr) (fun v _ _ => L - (intOf v).toNat)
        case atStart => exact ⟨i + 1, by omega, by omega, by go_num, rfl, HBq.out⟩
        case round =>
          obtain ⟨k, hk1, hk2, rfl, HK, hb⟩ := hrel
          have HB1 := Lib.hid hb
          have hz1 : w.heap.size ≤ wr.heap.size := hb.size
          clear hb
          by_cases hk : k < L
          · have hki : (k : Int) < (L : Int) := by omega
            obtain ⟨ab', ao', ra', rc', L', lr, e', -, hlr, ck, hIr⟩ := (HS.out.below HB1.out).1.at k hk
            injection e' with e'
            injection e' with e1 e2 e3
            subst e1 e2
            have hL' : L' = L := by rw [← hIr.1, hlr]; exact HS.out.2.1.2 k hk
            subst hL'
            obtain ⟨rb', ro', y, rfl, -, hy, cy⟩ := hIr.at j hj
            have hye : y = M.ent R k j := by rw [hy, hlr]; rfl
            have hys := HS.out.2.2.1 k j hk hj
            rw [← hye] at hys
            unfold M.Sm at hys
            have HYe := Lib.hid hye
            clear hlr hIr hy hye e3
            by_cases hyb : y = -1000000000000000
            · have hg0 : (g k).length = 0 := by rw [HGg.out]; exact M.step_bot (by rw [HVj.out, ← HYe.out]; exact hyb)
              have HKn : Hid (M.pick g (L' - (i + 1)) (i + 1) = M.pick g (L' - (k + 1)) (k + 1)) := HK.out.trans (M.pick_no hk hg0)
              subst hyb
              clear hg0
              go_wp2
              go_roundw
              case rel => exact ⟨k + 1, by omega, by omega, by go_num, HKn, HB1.out⟩
              case measure => simp [intOf]; omega
            · have gy : (y == -1000000000000000) = false := by simpa using hyb
              have HIr := Lib.hid (HO.out.below HB1.out).ints'
              obtain ⟨hb0, hhb⟩ : ∃ hb0, hb0 = M.hasB p (k : Int) := ⟨_, rfl⟩
              have HHb := Lib.hid hhb
              clear hhb
              cases hb0 with
              | true =>
                have hg0 : (g k).length = 0 := by rw [HGg.out]; exact M.step_has HHb.out.symm
                have HKn : Hid (M.pick g (L' - (i + 1)) (i + 1) = M.pick g (L' - (k + 1)) (k + 1)) := HK.out.trans (M.pick_no hk hg0)
                clear hg0
                go_wp2_with (go_at_call 138; refine (sHas _ _ _ p _ _ (by exact HIr.out)).mono ?_; rintro e w' ⟨rfl, rfl⟩; rw [← HHb.out])
                go_roundw
                case rel => exact ⟨k + 1, by omega, by omega, by go_num, HKn, HB1.out⟩
                case measure => simp [intOf]; omega
              | false =>
                obtain ⟨t, ht⟩ : ∃ t, t = M.grow (M.ent R) L' over f (p ++ [(k : Int)]) (wt + y) := ⟨_, rfl⟩
                have HTt := Lib.hid ht
                have HGk : Hid (g k = t) := by show _ = _; rw [HGg.out, M.step_go (by rw [HVj.out, ← HYe.out]; exact hyb) HHb.out.symm, HVj.out, ← HYe.out]; exact ht.symm
                have HN2 := Lib.hid (M.nodesB_snoc HNd.out hk)
                have HD2 := Lib.hid (M.diffB_snoc HDf.out HHb.out.symm)
                have HIq : Hid (Ints .i64 wr.drew (some ⟨pb, po, none⟩) (N + 1) p) := HIr.out.below (Below.refl _ _).drew
                have hwy : IntKind.i64.wrap (wt + y) = wt + y := IntWalk.i64_in _ (by omega)
                have hA := cell_lt ck
                have hBb := cell_lt cy
                clear ht
                go_wp2_with (go_at_call 138; refine (sHas _ _ _ p _ _ (by exact HIr.out)).mono ?_; rintro e w' ⟨rfl, rfl⟩; rw [← HHb.out])
                go_region_held3 (fun w' => w'.cell? ⟨ab, ao + k, none⟩ = some (.slice (some ⟨rb', ro', none⟩) L' rc') ∧ w'.cell? ⟨rb', ro' + j, none⟩ = some (.int .i64 y) ∧ Below wr.heap.size wr w')
                  (first
                    | exact ⟨ck, cy, (Below.refl _ _).drew⟩
                    | exact keepg ‹_ ∧ _ ∧ Below _ _ _› hA hBb HBa.out
                    | exact keepg ‹_ ∧ _ ∧ Below _ _ _› hA hBb (HBo.out.mono (belowg ‹_ ∧ _ ∧ Below _ _ _›).size)
                    | exact keepg ‹_ ∧ _ ∧ Below _ _ _› hA hBb (HBc.out.mono (belowg ‹_ ∧ _ ∧ Below _ _ _›).size)
                    | exact keepg ‹_ ∧ _ ∧ Below _ _ _› hA hBb ((b_alloc _ _).mono (belowg ‹_ ∧ _ ∧ Below _ _ _›).size))
                  (first
                    | (go_at_call 134; refine (sOwn _ _ _ p _ ?hh ?h1 ?h2).mono ?_; (case hh => (first | exact HIq.out | exact HIq.out.below (b_alloc _ _))); (case h1 => omega); (case h2 => omega); rintro e w1 ⟨b1, c1, rfl, ho, hb⟩; have HO1 := Lib.hid ho; have HBo := Lib.hid hb; clear ho hb)
                    | (go_at_call 123; refine (HIH.out _ (N + 1 + 1) _ _ (wt + y) wr.heap.size _ ?hs HO2.out HN2.out HD2.out (by omega) (by omega) (by omega) (by omega) ?hz).mono ?_; (case hs => exact HS.out.below (HB1.out.trans ((belowg ‹_ ∧ _ ∧ Below _ _ _›).mono hz1))); (case hz => exact (belowg ‹_ ∧ _ ∧ Below _ _ _›).size); rintro e w3 ⟨b3, n3, c3, rfl, ho, hb⟩; have HO3 := Lib.hid ho; have HBc := Lib.hid hb; clear ho hb)
                    | (refine step_append1 _ rfl _ _ rfl wr.heap.size _ p (k : Int) _ (N + 1) HPl.out rfl ?ho rfl ?hy ?hl ?hb ?_; (case ho => (first | exact HO1.out.mono (Nat.le_refl _) | exact HO1.out.mono (by simp) | exact (HO1.out.below (b_alloc _ _)).mono (Nat.le_refl _))); (case hy => (first | (simp; done) | exact new_kept (wd := wr.drew) HBo.out)); (case hl => omega); (case hb => exact (belowg ‹_ ∧ _ ∧ Below _ _ _›).size); intro b2 c2 w2 ho hb; have HO2 := Lib.hid ho; have HBa := Lib.hid hb; clear ho hb))
                all_goals
                  have hbz : Below wr.heap.size wr w3 := by
                    first
                      | exact belowg ‹_ ∧ _ ∧ Below _ _ _›
                      | exact (belowg ‹_ ∧ _ ∧ Below wr.heap.size wr w2›).trans (HBc.out.mono (belowg ‹_ ∧ _ ∧ Below wr.heap.size wr w2›).size)
                  have HBz := Lib.hid (HB1.out.trans (hbz.mono hz1))
                  rw [← HTt.out] at HO3
                  have hlt := HO3.out.len
                  clear hbz
                  by_cases hn3 : n3 = 0
                  · subst hn3
                    have HKn : Hid (M.pick g (L' - (i + 1)) (i + 1) = M.pick g (L' - (k + 1)) (k + 1)) := HK.out.trans (M.pick_no hk (by rw [HGk.out]; exact hlt.symm))
                    clear hlt
                    go_wp2
                    go_roundw
                    case rel => exact ⟨k + 1, by omega, by omega, by go_num, HKn, HBz.out⟩
                    case measure => simp [intOf]; omega
                  · have HE : Hid (M.grow (M.ent R) L' over (f + 1) p wt = t) := HG.out.trans (HK.out.trans ((M.pick_yes hk (by rw [HGk.out]; omega)).trans HGk.out))
                    have hn3p : 0 < n3 := by omega
                    clear hlt
                    go_wp2
                    go_ret
                    exact ⟨_, _, _, rfl, by rw [HE.out]; exact HO3.out.mono (Nat.le_trans hB hz1), HBz.out⟩
          · obtain rfl : k = L := by omega
            have HE : Hid (M.grow (M.ent R) k over (f + 1) p wt = []) := HG.out.trans (HK.out.trans M.pick_end)
            go_wp2
            go_ret
            exact ⟨_, _, _, rfl, by rw [HE.out]; exact own_nil _ _, HB1.out⟩
end Go.Proofs.Ytjljplolonpldab.V

namespace Go.Proofs.Ytjljplolonpldab
namespace V
open Go.RowKit
theorem rlit (w : World) (B : Nat) (x : Int) (h : B ≤ w.heap.size) : Own (w.alloc (.cells #[.int .i64 x] 2)) B (.slice (some ⟨w.heap.size, 0, none⟩) 1 1) [x] := World.ownsRow_lit w #[.int .i64 x] 1 h (by decide) rfl
set_option maxRecDepth 100000 in
set_option maxHeartbeats 1000000 in
theorem sOver (a : Option Addr) (n cap : Nat) (R : List (List Int)) (over : Int) (w : World) (h : Sq w a n R) :
    Calls Try.prog 92 #[.slice a n cap, .int .i64 over] w fun e w' => ∃ b' n' c', e = .returned (.slice b' n' c') ∧ Own w' w.heap.size (.slice b' n' c') (M.overL (M.ent R) n over) ∧ Below w.heap.size w w' := by
  have HS := Lib.hid h
  have hn10 := h.2.2.2.2
  obtain ⟨g, hg⟩ : ∃ g : Nat → List Int, g = fun v : Nat => M.grow (M.ent R) n over n [(v : Int)] 0 := ⟨_, rfl⟩
  have HG : Hid (M.overL (M.ent R) n over = M.pick g n 0) := by show _ = _; rw [hg]; rfl
  have HGg : Hid (∀ v : Nat, g v = M.grow (M.ent R) n over n [(v : Int)] 0) := fun v => by rw [hg]
  clear h hg
  go_enter Try.func92, Try.ntmps92
  go_wp2
  go_loopw [5, 6] (fun v _ wr => ∃ k : Nat, k ≤ n ∧ v = .int .i64 k ∧ Hid (M.pick g n 0 = M.pick g (n - k) k) ∧ Below w.heap.size w wr) (fun v _ _ => n - (intOf v).toNat)
  case atStart => exact ⟨0, Nat.zero_le _, rfl, rfl, Below.refl _ _⟩
  case round =>
    obtain ⟨k, hk2, rfl, HK, hb⟩ := hrel
    have HB1 := Lib.hid hb
    have hz1 : w.heap.size ≤ wr.heap.size := hb.size
    clear hb
    by_cases hk : k < n
    · have hki : (k : Int) < (n : Int) := by omega
      obtain ⟨t, ht⟩ : ∃ t, t = M.grow (M.ent R) n over n [(k : Int)] 0 := ⟨_, rfl⟩
      have HTt := Lib.hid ht
      have HGk : Hid (g k = t) := (HGg.out k).trans ht.symm
      have HN2 : Hid (M.nodesB n [(k : Int)] = true) := by show _ = _; unfold M.nodesB; simp [M.inN]; omega
      have HD2 : Hid (M.diffB [(k : Int)] = true) := M.diffB_of (fun i hi => by
        simp at hi; subst hi; rfl)
      have HLit := Lib.hid (rlit wr w.heap.size (k : Int) hz1)
      have HSl := Lib.hid (HS.out.below (HB1.out.alloc hz1 (.cells #[.int .i64 (k : Int)] 2)))
      clear ht
      go_wp2_with fail
      refine (sGrow _ _ _ R over n _ 1 _ [(k : Int)] 0 w.heap.size _ HSl.out HLit.out HN2.out HD2.out (by omega) (by omega) (by omega) (by omega) (by simp; omega)).mono ?_
      rintro e w3 ⟨b3, n3, c3, rfl, ho, hb⟩
      rw [← HTt.out] at ho
      have hlt := ho.len
      have HO3 := Lib.hid ho
      have HBz := Lib.hid ((HB1.out.alloc hz1 (.cells #[.int .i64 (k : Int)] 2)).trans (hb.mono (by simp; omega)))
      clear ho hb
      by_cases hn3 : n3 = 0
      · subst hn3
        have HKn : Hid (M.pick g n 0 = M.pick g (n - (k + 1)) (k + 1)) := HK.out.trans (M.pick_no hk (by rw [HGk.out]; exact hlt.symm))
        clear hlt
        go_wp2
        go_roundw
        case rel => exact ⟨k + 1, by omega, by go_num, HKn, HBz.out⟩
        case measure => simp [intOf]; omega
      · have HE : Hid (M.overL (M.ent R) n over = t) := HG.out.trans (HK.out.trans ((M.pick_yes hk (by rw [HGk.out]; omega)).trans HGk.out))
        have hn3p : 0 < n3 := by omega
        clear hlt
        go_wp2
        go_ret
        exact ⟨_, _, _, rfl, by rw [HE.out]; exact HO3.out, HBz.out⟩
    · obtain rfl : k = n := by omega
      have HE : Hid (M.overL (M.ent R) k over = []) := HG.out.trans (HK.out.trans M.pick_end)
      go_wp2
      go_ret
      exact ⟨_, _, _, rfl, by rw [HE.out]; exact own_nil _ _, HB1.out⟩
set_option maxRecDepth 100000 in
set_option maxHeartbeats 1000000 in
theorem sPositiveCycle (a : Option Addr) (n cap : Nat) (R : List (List Int)) (w : World) (h : Mat w a n R) :
    Calls Try.prog 43 #[.slice a n cap] w (VRes (M.posRes R) w) := by
  have HA := Lib.hid h
  have HR := Lib.hid h.1
  by_cases hs : M.sqB R = true
  · have HS := Lib.hid hs
    have HQ := Lib.hid (sq_of h hs)
    obtain ⟨l, hl⟩ : ∃ l, l = M.overL (M.ent R) n 0 := ⟨_, rfl⟩
    have HL := Lib.hid hl
    have HE : Hid (M.posRes R = if l.length = 0 then ([], 4) else (l, 0)) := by
      show _ = _; unfold M.posRes; rw [hs, if_pos rfl, h.1, ← hl]
    clear h hs hl
    go_enter Try.func43, Try.ntmps43
    go_wp2_with (go_at_call 55; refine (sSquare_b _ _ _ R _ true HS.out HA.out).mono ?_; rintro e w' ⟨rfl, q, rfl⟩)
    refine (sOver _ _ _ R 0 _ (HQ.out.below (b_draws _ _))).mono ?_
    rintro e w3 ⟨b3, n3, c3, rfl, ho, hb⟩
    rw [← HL.out] at ho
    have hlt := ho.len
    have HO3 := Lib.hid ho
    have HB3 : Hid (Below w.heap.size w w3) := (b_draws w q).trans hb
    clear ho hb
    by_cases hn3 : n3 = 0
    · subst hn3
      have HEE : Hid (M.posRes R = ([], 4)) := HE.out.trans (if_pos hlt.symm)
      clear hlt
      go_wp2
      go_ret2
      exact VRes.nil HEE.out HB3.out
    · have HEE : Hid (M.posRes R = (l, 0)) := HE.out.trans (if_neg (by omega))
      have hn3f : ((n3 : Int) == 0) = false := by simp; omega
      have hn3g : (n3 == 0) = false := by simpa using hn3
      clear hlt
      go_wp2
      go_ret2
      rw [HEE.out]
      exact ⟨_, _, _, rfl, HO3.out, HB3.out⟩
  · simp only [Bool.not_eq_true] at hs
    have HS := Lib.hid hs
    have HE : Hid (M.posRes R = ([], 1)) := by show _ = _; unfold M.posRes; rw [hs]; rfl
    clear h hs
    go_enter Try.func43, Try.ntmps43
    go_wp2_with (go_at_call 55; refine (sSquare_b _ _ _ R _ false HS.out HA.out).mono ?_; rintro e w' ⟨rfl, q, rfl⟩)
    go_ret2
    exact VRes.nil HE.out (b_draws _ _)
end V
end Go.Proofs.Ytjljplolonpldab

namespace Go.Proofs.Ytjljplolonpldab.V
open Go Go.RowKit Go.Shelf
attribute [local go_sem] Oper.semAt_some

theorem own_head {w : World} {B n c : Nat} {b : Option Addr} {p : List Int} (h : Own w B (.slice b n c) p) (hn : 0 < p.length) : ∃ g, b = some ⟨g, 0, none⟩ ∧ B ≤ g := by
  obtain ⟨a', c', hv, -, -, hg⟩ := own_form h
  injection hv with e1 e2 e3
  obtain ⟨g, h1, h2, -⟩ := hg hn
  exact ⟨g, by rw [e1]; exact h1, h2⟩

set_option maxRecDepth 100000 in
set_option maxHeartbeats 4000000 in
theorem smallestCycle (a : Option Addr) (n cap : Nat) (R : List (List Int)) (ov : Int) (w0 : World) (hq : Sq w0 a n R) :
    Calls Try.prog 91 #[.slice a n cap, .int .i64 (ov + 1)] w0 fun e w' => ∃ b n' c', e = .returned (.slice b n' c') ∧ Own w' w0.heap.size (.slice b n' c') (M.overL (M.ent R) n ov) ∧ Below w0.heap.size w0 w' := by
  obtain ⟨w, hwd⟩ : ∃ w, w = w0.alloc (.cells #[.int .i64 (ov + 1)] 2) := ⟨_, rfl⟩
  have HQ : Hid (Sq w a n R) := by rw [hwd]; exact hq.below (b_alloc _ _)
  have HW0 : Hid (Below w0.heap.size w0 w) := by rw [hwd]; exact b_alloc _ _
  have hLx : w.heap.size = w0.heap.size + 1 := by rw [hwd]; simp
  have HLC : Hid (w.cell? ⟨w0.heap.size, 0, none⟩ = some (.int .i64 (ov + 1))) := by show _ = _; rw [hwd]; simp
  have hn10 := HQ.out.2.2.2
  clear hq
  refine callsIn_wide.1 (callsIn_of_wp_marks (n := 3) Try.func91 rfl trivial (wpIn_wide.2 ?_) rfl)
  simp only [Try.ntmps91, List.size_toArray, List.length_cons, List.length_nil, Nat.reduceAdd, Nat.reduceSub, Array.replicate_succ, Array.replicate_zero, List.push_toArray, List.append_toArray, List.nil_append, List.cons_append]
  go_wp2
  rw [← hwd]
  clear hwd
  go_step3
  go_wp2
  obtain ⟨Lx, hLxd⟩ : ∃ Lx, Lx = w0.heap.size := ⟨_, rfl⟩
  rw [← hLxd] at hLx HLC ⊢
  clear hLxd
  obtain ⟨Bx, hBx'⟩ : ∃ Bx, Bx = Lx + 1 := ⟨_, rfl⟩
  have hBx : Bx = w.heap.size := by rw [hBx', hLx]
  have hlo : w.heap.size ≤ Bx := by omega
  obtain ⟨gg, hgg⟩ : ∃ gg : Nat → List Int, gg = fun (v : Nat) => M.grow (M.ent R) n ov n [(v : Int)] 0 := ⟨_, rfl⟩
  have HGG := Lib.hid hgg
  have hov : M.overL (M.ent R) n ov = M.pick gg (n - 0) 0 := by rw [hgg]; rfl
  have hcb : (w.alloc (.cells #[.slice none 0 0] 29)).cell? ⟨Bx, 0, none⟩ = some (.slice none 0 0) := by rw [hBx]; simp
  have hfb : (w.alloc (.cells #[.slice none 0 0] 29)).frozen? ⟨Bx, 0, none⟩ = false := by rw [hBx]; simp
  have hbb : Below w.heap.size w (w.alloc (.cells #[.slice none 0 0] 29)) := b_alloc _ _
  rw [← hBx']
  clear hgg hBx hBx'
  go_step3
  go_wp2
  refine wp_loop_ghost_k (fun m a' w' => ∃ (k : Nat) (Ds : List Nat) (u6 u7 u8 u12 u13 u14 u15 u16 u17 u18 u19 u20 u21 u22 u23 u24 u25 : Value), k ≤ n ∧ m = n - k ∧ a' = { tmps := #[.slice a n cap, .int .i64 (ov + 1), undef, .pointer (some ⟨Lx, 0, none⟩), .slice none 0 0, .pointer (some ⟨Bx, 0, none⟩), u6, u7, u8, .slice a n cap, .int .i64 n, .int .i64 k, u12, u13, u14, u15, u16, u17, u18, u19, u20, u21, u22, u23, u24, u25], defers := Ds.map mark } ∧ Marks w.heap.size Ds w' ∧ Below w.heap.size w w' ∧ w'.cell? ⟨Bx, 0, none⟩ = some (.slice none 0 0) ∧ w'.frozen? ⟨Bx, 0, none⟩ = false ∧ Hid (M.overL (M.ent R) n ov = M.pick gg (n - k) k)) n ⟨0, [], _, _, _, _, _, _, _, _, _, _, _, _, _, _, _, _, _, Nat.zero_le _, rfl, rfl, Marks.nil _ _, hbb, hcb, hfb, hov⟩ ?_
  clear hcb hfb hbb hov
  intro m a' w' hI J K hJ hK
  obtain ⟨k, Ds, u6, u7, u8, u12, u13, u14, u15, u16, u17, u18, u19, u20, u21, u22, u23, u24, u25, hk, rfl, rfl, hMk, hBl, hcb, hfb, HP⟩ := hI
  by_cases hlt : k < n
  · have hki : (k : Int) < (n : Int) := by omega
    have HJ := Lib.hid hJ
    have HK := Lib.hid hK
    have HMk := Lib.hid hMk
    have HBl := Lib.hid hBl
    clear hJ hK hMk hBl
    go_wp2_with (go_at_call 121; refine (cyclesFrom_ _ _ _ ⟨_, _, _, rfl⟩).mono ?_; rintro e2 w2 ⟨rfl, rfl⟩)
    obtain ⟨Ba, hBa⟩ : ∃ Ba, Ba = w'.heap.size := ⟨_, rfl⟩
    have hlt1 : Bx < w'.heap.size := cell_lt hcb
    obtain ⟨w2, hw2⟩ : ∃ w2, w2 = ((w'.alloc (.cells #[.slice a n cap] 22)).alloc (.cells #[.int .i64 k] 2)) := ⟨_, rfl⟩
    have hbw : Below w'.heap.size w' w2 := by rw [hw2]; exact ((Below.refl _ _).alloc (Nat.le_refl _) _).alloc (by simp) _
    have hsz2 : w2.heap.size = Ba + 2 := by rw [hw2, hBa]; simp
    have hca : w2.cell? ⟨Ba, 0, none⟩ = some (.slice a n cap) := by
      rw [hw2, hBa, World.cell?_alloc_old _ _ _ (by simp)]; simp
    have hcf : w2.cell? ⟨Ba + 1, 0, none⟩ = some (.int .i64 k) := by
      have h := World.alloc_heap_new (w'.alloc (.cells #[.slice a n cap] 22)) (.cells #[.int .i64 k] 2)
      rw [World.size_alloc] at h
      rw [hw2, hBa]
      simp only [World.cell?, h]
      rfl
    rw [← hw2, ← hBa]
    have hcb2 := (hbw.cell (p := ⟨Bx, 0, none⟩) hlt1).trans hcb
    have hfb2 := (hbw.frozen (p := ⟨Bx, 0, none⟩) hlt1).trans hfb
    have HM2 : Hid (Marks w.heap.size Ds w2) := HMk.out.keep (Bx := Bx) hcb (Nat.le_refl _) (fun q hq _ => hbw.block q hq)
    have HB2 : Hid (Below w.heap.size w w2) := HBl.out.trans (hbw.mono HBl.out.size)
    have HQ2 : Hid (Sq w2 a n R) := HQ.out.below HB2.out
    have hltB : Bx < w2.heap.size := by rw [hsz2, hBa]; omega
    have hz2 : w.heap.size ≤ w2.heap.size := HB2.out.size
    have hBa2 : Ba + 1 < w2.heap.size := by omega
    clear hw2 hbw hcb hfb hBa hlt1 hsz2
    refine (wpIn_wide (n := 3)).1 ?_
    refine rangeState (gf := 136) (lb := #[.pointer (some ⟨Ba, 0, none⟩), .pointer (some ⟨Ba + 1, 0, none⟩)]) rfl (enters_of Try.func136 (by kernel_rfl) rfl) (PreC ov (w2.heap.size + 2) (gg k)) ?hps (GoC ov)
      (fun id _ W A => id = 0 ∧ (∃ g L c, A.cell? ⟨Bx, 0, none⟩ = some (.slice (some ⟨g, 0, none⟩) L c) ∧ Own A W.heap.size (.slice (some ⟨g, 0, none⟩) L c) (gg k) ∧ (gg k).length ≠ 0) ∧ Below w.heap.size w A ∧ (w2.heap.size ≤ A.heap.size ∧ w2.heap.size + 2 ≤ W.heap.size) ∧ ∀ q, q < w2.heap.size → q ≠ Bx → A.heap[q]? = w2.heap[q]?)
      ((gg k).length = 0) ?hMove ?hiter (fun x => match x.toList with | [p, q] => { tmps := #[.slice a n cap, .int .i64 (ov + 1), undef, .pointer (some ⟨Lx, 0, none⟩), .slice none 0 0, .pointer (some ⟨Bx, 0, none⟩), .int .i64 k, p, q, .slice a n cap, .int .i64 n, .int .i64 k, .bool true, .int .i64 k, .slice a n cap, .int .i64 k, .func (.func 136) #[] #[.pointer (some ⟨Ba, 0, none⟩), .pointer (some ⟨Ba + 1, 0, none⟩)], p, q, u19, u20, u21, u22, u23, u24, u25], defers := [] } | _ => { tmps := #[], defers := [] }) ?hassign ?hbody ?hdone ?hstop
    case hps => rintro x W ⟨b, L, c, p, wt, rfl, -⟩; rfl
    case hMove =>
      rintro id x W A B q ⟨rfl, ⟨g, L, c, h1, h2, h3⟩, h4, ⟨h6, h7⟩, h5⟩ hch hq
      have hg : W.heap.size ≤ g ∧ g < A.heap.size := own_lt h2 rfl
      refine ⟨rfl, ⟨g, L, c, ?_, ownsRow_keep h2 (fun r hr => ?_), h3⟩, ?_, ⟨Nat.le_trans h6 hch.2.2.2.1, h7⟩, ?_⟩
      · rw [World.cell?_of_block (w := A) (w' := B) (a := ⟨Bx, 0, none⟩) (hch.2.2.2.2 Bx (cell_lt h1) (by omega))]; exact h1
      · have : g = r := by injection hr
        subst this
        exact hch.2.2.2.2 g hg.2 (by omega)
      · exact ⟨hch.1.trans h4.os, hch.2.1.trans h4.tape, hch.2.2.1.trans h4.output, Nat.le_trans h4.size hch.2.2.2.1, fun r hr => (hch.2.2.2.2 r (by have := h4.size; omega) (by omega)).trans (h4.block r hr)⟩
      · intro r hr hne'
        exact (hch.2.2.2.2 r (by omega) (by omega)).trans (h5 r hr hne')
    case hiter =>
      intro T W1 hb1 hs1 hY
      have hg : gg k = M.grow (M.ent R) n ov n [(k : Int)] 0 := by rw [HGG.out]
      rw [← hs1, hg] at hY
      rw [← hs1, hg]
      exact callsIn_wide.2 (cycles1 ov a n cap R k (w2.heap.size + 1) Ba (Ba + 1) T W1 (HQ2.out.below hb1) hlt ((hb1.cell (p := ⟨Ba, 0, none⟩) (by show Ba < _; omega)).trans hca) ((hb1.cell (p := ⟨Ba + 1, 0, none⟩) (by show Ba + 1 < _; omega)).trans hcf) hY)
    case hassign =>
      intro l x W m K' hp hK'
      obtain ⟨b, L, c, p, wt, rfl, -⟩ := hp
      gi_wp2
      exact hK'
    case hbody =>
      intro x W o m hp hbl hsz
      obtain ⟨b, L, c, p, wt, rfl, ho, hL1, hL2, hres⟩ := hp
      have hcb3 : (W.putObj (w2.heap.size + 1) o).cell? ⟨Bx, 0, none⟩ = some (.slice none 0 0) := by
        rw [World.cell?_of_block (w := W) (a := ⟨Bx, 0, none⟩) (World.putObj_heap_other (by show Bx ≠ _; omega)), hbl.cell (p := ⟨Bx, 0, none⟩) hltB]; exact hcb2
      have hfb3 : (W.putObj (w2.heap.size + 1) o).frozen? ⟨Bx, 0, none⟩ = false := by
        rw [World.frozen?_of_block (w := W) (a := ⟨Bx, 0, none⟩) (World.putObj_heap_other (by show Bx ≠ _; omega)), hbl.frozen (p := ⟨Bx, 0, none⟩) hltB]; exact hfb2
      have HO3 : Hid (Own (W.putObj (w2.heap.size + 1) o) (w2.heap.size + 2) (.slice b L c) p) := ho.keep (fun q h1 _ => World.putObj_heap_other (by omega))
      have HRES := Lib.hid hres
      have HLp : Hid (L = p.length) := ho.len
      have HBL := Lib.hid hbl
      have hl3 : (W.putObj (w2.heap.size + 1) o).cell? ⟨Lx, 0, none⟩ = some (.int .i64 (ov + 1)) := by
        rw [World.cell?_of_block (w := W) (a := ⟨Lx, 0, none⟩) (World.putObj_heap_other (by show Lx ≠ _; omega)), hbl.cell (p := ⟨Lx, 0, none⟩) (by show Lx < _; omega), HB2.out.cell (p := ⟨Lx, 0, none⟩) (by show Lx < _; omega)]; exact HLC.out
      clear ho hres hbl
      change Code.wpIn _ _ _ _ _ { tmps := #[.slice a n cap, .int .i64 (ov + 1), undef, .pointer (some ⟨Lx, 0, none⟩), .slice none 0 0, .pointer (some ⟨Bx, 0, none⟩), .int .i64 k, (.slice b L c), (.int .i64 wt), .slice a n cap, .int .i64 n, .int .i64 k, .bool true, .int .i64 k, .slice a n cap, .int .i64 k, .func (.func 136) #[] #[.pointer (some ⟨Ba, 0, none⟩), .pointer (some ⟨Ba + 1, 0, none⟩)], (.slice b L c), (.int .i64 wt), u19, u20, u21, u22, u23, u24, u25], defers := [] } _
      by_cases hw : ov < wt
      · have hwg : ov + 1 ≤ wt := by omega
        have hwz : W.heap.size = (W.putObj (w2.heap.size + 1) o).heap.size := by simp
        have hBW : Bx < W.heap.size := by omega
        have hp0 : 0 < p.length := by have := HLp.out; omega
        gi_wp2_with (refine ⟨trivial, fun h => by simp [Fence.wide] at h, ?_⟩; gi_at_call 122; refine (CallsIn.inRound _ (callsIn_wide.2 (clone _ _ _ p _ HO3.out.ints' (by omega) (by omega)))).mono ?_; rintro e3 w3 ⟨b3, c3, rfl, ho3, hb3⟩; obtain ⟨g3, rfl, hg3⟩ := own_head ho3 hp0; have hc3 := (hb3.cell (p := ⟨Bx, 0, none⟩) (by rw [← hwz]; exact hBW)).trans hcb3; have hf3 := (hb3.frozen (p := ⟨Bx, 0, none⟩) (by rw [← hwz]; exact hBW)).trans hfb3; have HO4 := Lib.hid ho3; have HB3 := Lib.hid hb3; clear ho3 hb3)
        have hs3 := HB3.out.size
        have hpk := HRES.out hw
        have hgk := own_lt HO4.out rfl
        rw [← hwz] at hg3 hs3
        have hset : ∀ q, q ≠ Bx → (w3.setCell ⟨Bx, 0, none⟩ (.slice (some ⟨g3, 0, none⟩) L c3)).heap[q]? = w3.heap[q]? := fun q hq => Below.heap_setCell w3 ⟨Bx, 0, none⟩ _ q hq
        have hszs : (w3.setCell ⟨Bx, 0, none⟩ (.slice (some ⟨g3, 0, none⟩) L c3)).heap.size = w3.heap.size := by simp
        have hq3 : ∀ q, q < W.heap.size → w3.heap[q]? = (W.putObj (w2.heap.size + 1) o).heap[q]? := fun q hq => HB3.out.block q (by rw [← hwz]; exact hq)
        refine ⟨(hset _ (by omega)).trans (hq3 _ (by omega)), (hset _ (by omega)).trans (hq3 _ (by omega)), by rw [hszs, ← hwz]; exact hs3, fun q hq1 hq2 => (hset _ (by omega)).trans (hq3 _ hq2), rfl, ⟨g3, L, c3, World.cell?_setCell_same' _ _ _ (by rw [hc3]; rfl), ?_, ?_⟩, ?_, ⟨by rw [hszs]; omega, hsz⟩, fun q hq1 hq2 => ?_⟩
        · rw [← hpk]
          have := HO4.out
          rw [← hwz] at this
          exact ownsRow_keep this (fun r hr => by
            have hgr : g3 = r := by injection hr
            subst hgr
            exact hset _ (by omega))
        · rw [← hpk, ← HLp.out]; omega
        · have hbW : Below w.heap.size w W := HB2.out.trans (HBL.out.mono hz2)
          refine ⟨HB3.out.os.trans hbW.os, HB3.out.tape.trans hbW.tape, HB3.out.output.trans hbW.output, by rw [hszs]; have := hbW.size; omega, fun q hq => ?_⟩
          have := hbW.size
          rw [hset _ (by omega), hq3 _ (by omega), World.putObj_heap_other (by omega)]
          exact hbW.block q hq
        · rw [hset _ hq2, hq3 _ (by omega), World.putObj_heap_other (by omega)]
          exact HBL.out.block q hq1
      · have hw' : wt ≤ ov := by omega
        have hwl : ¬ (ov + 1 ≤ wt) := by omega
        gi_wp2
        exact ⟨Below.refl _ _, _, _, rfl, hw'⟩
    case hdone =>
      intro W hF hb hsz hD
      have HPn : Hid (M.overL (M.ent R) n ov = M.pick gg (n - (k + 1)) (k + 1)) := HP.out.trans (M.pick_no hlt hF)
      have HMn : Hid (Marks w.heap.size (w2.heap.size :: Ds) W) := Marks.cons HM2.out (HM2.out.keep (Bx := Bx) hcb2 (Nat.le_refl _) (fun q hq _ => hb.block q hq)) (Nat.le_refl _) hz2 hD
      have HBn : Hid (Below w.heap.size w W) := HB2.out.trans (hb.mono hz2)
      have hcn := (hb.cell (p := ⟨Bx, 0, none⟩) hltB).trans hcb2
      have hfn := (hb.frozen (p := ⟨Bx, 0, none⟩) hltB).trans hfb2
      clear hF hb hD hca hcf hcb2 hfb2
      go_wp2
      exact HK.out _ _ (Handed.intro (n - (k + 1)) (by omega) (HJ.out _ _ _ ⟨k + 1, w2.heap.size :: Ds, .int .i64 k, u7, u8, .bool true, .int .i64 k, .slice a n cap, .int .i64 k, _, u17, u18, u19, u20, u21, u22, u23, .int .i64 ((k : Int) + 1), u25, by omega, rfl, rfl, HMn.out, HBn.out, hcn, hfn, HPn.out⟩))
    case hstop =>
      intro id x W2 W hp hb hst hD
      obtain ⟨rfl, ⟨g, L, c, h1, h2, h3⟩, h4, ⟨h6, h7⟩, h5⟩ := hst
      have HEq : Hid (M.overL (M.ent R) n ov = gg k) := HP.out.trans (M.pick_yes hlt h3)
      have HMn : Hid (Marks w.heap.size (w2.heap.size :: Ds) W) := Marks.cons HM2.out (HM2.out.keep (Bx := Bx) hcb2 (Nat.le_refl _) h5) (Nat.le_refl _) hz2 hD
      have HOn : Hid (Own W w.heap.size (.slice (some ⟨g, 0, none⟩) L c) (gg k)) := h2.mono (by omega)
      have HB4 := Lib.hid h4
      clear h2 h3 h4 h5 h6 h7 hb hp hD hca hcf hcb2 hfb2
      refine wpIn_wide.2 ?_
      go_wp2
      rw [Exit.noGoto_ret]
      exact leaves_marks (lo := w.heap.size) (fun W' => Own W' w.heap.size (.slice (some ⟨g, 0, none⟩) L c) (gg k) ∧ Below w.heap.size w W')
        (fun A D o hA hlo' hD' => ⟨ownsRow_keep hA.1 (fun r hr => World.putObj_heap_other (by
          have hgr : g = r := by injection hr
          subst hgr
          rintro rfl
          obtain ⟨-, ⟨hv, -⟩ | ⟨g', cap', cur, hv, -, hg', -⟩⟩ := hA.1
          · cases hv
          · injection hv with e1 e2 e3
            injection e1 with e1
            injection e1 with e1
            subst e1
            rw [hD'] at hg'
            cases hg')), ⟨hA.2.os, hA.2.tape, hA.2.output, by have := hA.2.size; simpa using this, fun r hr => (World.putObj_heap_other (by omega)).trans (hA.2.block r hr)⟩⟩)
        (fun A hA => ⟨_, results_tmp rfl _ _ _, ⟨some ⟨g, 0, none⟩, L, c, rfl, by rw [HEq.out]; exact hA.1.mono HW0.out.size, HW0.out.trans (hA.2.mono HW0.out.size)⟩⟩) (w2.heap.size :: Ds) W HMn.out ⟨HOn.out, HB4.out⟩
  · obtain rfl : k = n := by omega
    have HEq : Hid (M.overL (M.ent R) k ov = []) := HP.out.trans M.pick_end
    have HBl := Lib.hid hBl
    have HMk := Lib.hid hMk
    clear hBl hMk hfb
    go_wp2
    rw [Exit.noGoto_ret]
    exact leaves_marks (lo := w.heap.size) (fun W' => Below w.heap.size w W')
      (fun A D o hA hlo' hD' => ⟨hA.os, hA.tape, hA.output, by have := hA.size; simpa using this, fun r hr => (World.putObj_heap_other (by omega)).trans (hA.block r hr)⟩)
      (fun A hA => ⟨_, results_tmp rfl _ _ _, ⟨none, 0, 0, rfl, by rw [HEq.out]; exact own_nil _ _, HW0.out.trans (hA.mono HW0.out.size)⟩⟩) Ds w' HMk.out HBl.out

set_option maxRecDepth 100000 in
set_option maxHeartbeats 1000000 in
theorem positiveCycle (a : Option Addr) (n cap : Nat) (R : List (List Int)) (w : World) (h : Mat w a n R) :
    Calls Try.prog 42 #[.slice a n cap] w (VRes (M.posRes R) w) := by
  have hR := h.1
  by_cases hs : M.sqB R = true
  · have hQ := sq_of h hs
    have hn10 := hQ.2.2.2
    by_cases hp : M.noPos (M.ent R) n = true
    · have h0 := M.over_none hn10.2 hQ.2.2.1 hp
      have HE : Hid (M.posRes R = ([], 4)) := by show _ = _; unfold M.posRes; rw [if_pos hs, hR, if_pos h0]
      have HC : Calls Try.prog 61 #[.slice a n cap] w (CPost (M.plusL R n) w) := plusOf a n cap R w hQ
      have e : (M.plusL R n).2 = true := by unfold M.plusL; rw [hp]; rfl
      have HA := Lib.hid h
      have HS := Lib.hid hs
      clear h hs hp hQ h0 hR
      go_enter Try.func42, Try.ntmps42
      go_wp2_with (go_at_call 59; refine (isSquare_b _ _ _ R _ true HS.out HA.out).mono ?_; rintro e w' ⟨rfl, rfl⟩)
      refine HC.mono ?_
      rintro e1 w1 ⟨a2, m2, cap2, rfl, -, hb⟩
      rw [e]
      have HB := Lib.hid hb
      clear hb HC
      go_wp2
      go_ret2
      exact VRes.nil HE.out HB.out
    · simp only [Bool.not_eq_true] at hp
      have h0 := M.over_some hn10.2 hQ.2.2.1 hp
      have HE : Hid (M.posRes R = (M.overL (M.ent R) n 0, 0)) := by show _ = _; unfold M.posRes; rw [if_pos hs, hR, if_neg h0]
      have HC : Calls Try.prog 61 #[.slice a n cap] w (CPost (M.plusL R n) w) := plusOf a n cap R w hQ
      have e : (M.plusL R n).2 = false := by unfold M.plusL; rw [hp]; rfl
      have HA := Lib.hid h
      have HS := Lib.hid hs
      have HQ := Lib.hid hQ
      clear h hs hp hQ h0 hR
      go_enter Try.func42, Try.ntmps42
      go_wp2_with (go_at_call 59; refine (isSquare_b _ _ _ R _ true HS.out HA.out).mono ?_; rintro e w' ⟨rfl, rfl⟩)
      refine HC.mono ?_
      rintro e1 w1 ⟨a2, m2, cap2, rfl, -, hb⟩
      rw [e]
      have HB := Lib.hid hb
      clear hb HC
      go_wp2_with fail
      refine (smallestCycle _ _ _ R 0 _ (HQ.out.below HB.out)).mono ?_
      rintro e2 w2 ⟨b, n', c', rfl, ho, hb2⟩
      have HO := Lib.hid ho
      have HB2 := Lib.hid hb2
      clear ho hb2
      go_wp2
      go_ret2
      rw [HE.out]
      exact ⟨_, _, _, rfl, HO.out.mono HB.out.size, HB.out.trans (HB2.out.mono HB.out.size)⟩
  · simp only [Bool.not_eq_true] at hs
    have HE : Hid (M.posRes R = ([], 1)) := by show _ = _; unfold M.posRes; rw [if_neg (by rw [hs]; exact Bool.false_ne_true)]
    have HA := Lib.hid h
    have HS := Lib.hid hs
    clear h hs hR
    go_enter Try.func42, Try.ntmps42
    go_wp2_with (go_at_call 59; refine (isSquare_b _ _ _ R _ false HS.out HA.out).mono ?_; rintro e w' ⟨rfl, rfl⟩)
    go_ret2
    exact VRes.nil HE.out (Below.refl _ _)
end Go.Proofs.Ytjljplolonpldab.V
namespace Go.Proofs.Ytjljplolonpldab.M
theorem pick_len {g : Nat → List Int} {m : Nat} (h : ∀ v, (g v).length ≤ m) : ∀ c k, (pick g c k).length ≤ m := by
  intro c
  induction c with
  | zero => intro k; exact Nat.zero_le _
  | succ c ih =>
    intro k
    show (if _ then _ else _ : List Int).length ≤ m
    split
    · exact ih _
    · exact h k
theorem posRes_len (R : List (List Int)) : (posRes R).1.length ≤ 11 := by
  unfold posRes
  split
  · next h =>
    obtain ⟨m1, m2, -⟩ := isMat_t (sqB_t h).1
    split
    · simp
    · have := pick_len (g := fun v => grow (ent R) R.length 0 R.length [(v : Int)] 0) (m := 11) (fun v => by
        have := grow_nodes (ent R) R.length 0 R.length [(v : Int)] 0
        simp at this; omega) R.length 0
      exact this
  · simp
end Go.Proofs.Ytjljplolonpldab.M
