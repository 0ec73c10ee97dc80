/- Texts laid together: It3, It4, Gr1, Gr2, It5. -/
import Derived.Test.YtjbffpmelglegaaQa19
import Derived.Test.YtjbffpmelglegaaQa1
import Derived.Test.YtjbffpmelglegaaQa17
import Derived.Test.YtjbffpmelglegaaQa6
import Derived.Test.YtjbffpmelglegaaQa15
import Derived.WalkMore
import Derived.Deep.LoopGhost
import Derived.Scope
set_option linter.unusedSimpArgs false
set_option linter.unusedVariables false
set_option linter.unusedSectionVars false
namespace Go.Proofs.Ytjbffpmelglegaa.V
open Go Go.RowKit

end Go.Proofs.Ytjbffpmelglegaa.V

namespace Go.Proofs.Ytjbffpmelglegaa.V
open Go Go.RowKit

def mark (D : Nat) : Deferred := { target := .collected D, args := #[] }
/-- The marks Ds lie, all different, at or past lo. -/
def Marks (lo : Nat) (Ds : List Nat) (W : World) : Prop := Ds.Nodup ∧ ∀ D ∈ Ds, lo ≤ D ∧ W.heap[D]? = some (.deferred (some []))
theorem Marks.nil (lo : Nat) (W : World) : Marks lo [] W := ⟨List.nodup_nil, fun D h => by cases h⟩
theorem Marks.keep {lo Bx N : Nat} {Ds : List Nat} {A B : World} {v : Value} (h : Marks lo Ds A) (hx : A.cell? ⟨Bx, 0, none⟩ = some v) (hN : A.heap.size ≤ N) (hk : ∀ k, k < N → k ≠ Bx → B.heap[k]? = A.heap[k]?) : Marks lo Ds B :=
  ⟨h.1, fun D hD => by
    obtain ⟨h1, h2⟩ := h.2 D hD
    have hlt := (Array.getElem?_eq_some_iff.1 h2).1
    refine ⟨h1, (hk D (by omega) ?_).trans h2⟩
    rintro rfl
    simp [World.cell?, h2] at hx⟩
theorem Marks.cons {lo D : Nat} {Ds : List Nat} {A B : World} (h : Marks lo Ds A) (hB : Marks lo Ds B) (hD : A.heap.size ≤ D) (hlo : lo ≤ D) (hd : B.heap[D]? = some (.deferred (some []))) : Marks lo (D :: Ds) B :=
  ⟨List.nodup_cons.2 ⟨fun hm => by
    have := (Array.getElem?_eq_some_iff.1 (h.2 D hm).2).1
    omega, h.1⟩, fun E hE => by
    rcases List.mem_cons.1 hE with rfl | hE
    · exact ⟨hlo, hd⟩
    · exact hB.2 E hE⟩
theorem leaves_marks {P : Program} {n : Nat} {fn : Func} {tmps : Array Value} {R : Ending → World → Prop} {lo : Nat} (Good : World → Prop) (hG : ∀ W D o, Good W → lo ≤ D → W.heap[D]? = some (.deferred (some [])) → Good (W.putObj D o))
    (hfin : ∀ W, Good W → LeavesInM Fence.wide n P fn tmps R [] .returning W) (Ds : List Nat) : ∀ W, Marks lo Ds W → Good W → LeavesInM Fence.wide n P fn tmps R (Ds.map mark) .returning W := by
  induction Ds with
  | nil => intro W _ hg; exact hfin W hg
  | cons D Ds ih =>
    intro W hm hg
    obtain ⟨h1, h2⟩ := hm.2 D (by simp)
    refine ⟨by simp, .inl ⟨D, _, rfl, run_takeDeferred h2, ih _ ?_ (hG _ _ _ hg h1 h2)⟩⟩
    refine ⟨(List.nodup_cons.1 hm.1).2, fun E hE => ?_⟩
    obtain ⟨q1, q2⟩ := hm.2 E (List.mem_cons_of_mem _ hE)
    refine ⟨q1, (World.putObj_heap_other ?_).trans q2⟩
    rintro rfl
    exact (List.nodup_cons.1 hm.1).1 hE
end Go.Proofs.Ytjbffpmelglegaa.V

namespace Go.Proofs.Ytjbffpmelglegaa.V
open Go.RowKit

theorem keepg {w0 w w' : World} {B : Nat} {p q : Addr} {x y : Value} (h : w.cell? p = some x ∧ w.cell? q = some y ∧ Below B w0 w) (hp : p.block < B) (hq : q.block < B) (hb : Below B w w') : w'.cell? p = some x ∧ w'.cell? q = some y ∧ Below B w0 w' :=
  ⟨(hb.cell hp).trans h.1, (hb.cell hq).trans h.2.1, h.2.2.trans hb⟩
theorem belowg {w0 w : World} {B : Nat} {P Q : Prop} (h : P ∧ Q ∧ Below B w0 w) : Below B w0 w := h.2.2
set_option maxRecDepth 100000 in
set_option maxHeartbeats 4000000 in
theorem sGrow (a : Option Addr) (n cap : Nat) (R : List (List Int)) (over : Int) (f : Nat) : ∀ (b : Option Addr) (N c : Nat) (p : List Int) (wt : Int) (B : Nat) (w : World), Sq w a n R → Own w B (.slice b N c) p → M.nodesB n p = true → M.diffB p = true → 1 ≤ N → n + 1 ≤ f + N → -1000001000000 * (N : Int) ≤ wt → wt ≤ 1000001000000 * (N : Int) → B ≤ w.heap.size →
    Calls Try.prog 175 #[.slice a n cap, .slice b N c, .int .i64 wt, .int .i64 over] w fun e w' => ∃ b' n' c', e = .returned (.slice b' n' c') ∧ Own w' B (.slice b' n' c') (M.grow (M.ent R) n over f p wt) ∧ Below w.heap.size w w' := by
  induction f with
  | zero =>
    intro b N c p wt B w hS hO hn hd h1 hf hw1 hw2 hB
    have := M.diffB_len hn hd
    have := hO.len
    omega
  | succ f IH =>
    intro b N c p wt B w hS hO hn hd h1 hf hw1 hw2 hB
    obtain ⟨N, rfl⟩ : ∃ m, N = m + 1 := ⟨N - 1, by omega⟩
    have HIH := Lib.hid IH
    have hpl : p.length = N + 1 := hO.len.symm
    have hle := M.diffB_len hn hd
    have hn10 := hS.2.2.2.2
    have h0 := M.nodesB_at hn (k := 0) (by omega)
    have hN := M.nodesB_at hn (k := N) (by omega)
    obtain ⟨pb, po, x0, rfl, -, hx0, c0⟩ := hO.ints'.at 0 (by omega)
    obtain ⟨pb2, po2, x1, hpe, -, hx1, c1⟩ := hO.ints'.at N (by omega)
    injection hpe with hpe
    injection hpe with e1 e2 e3
    subst e1 e2
    rw [← hx0] at h0
    rw [← hx1] at hN
    obtain ⟨i, rfl⟩ := Int.eq_ofNat_of_zero_le h0.1
    obtain ⟨j, rfl⟩ := Int.eq_ofNat_of_zero_le hN.1
    have hi : i < n := by omega
    have hj : j < n := by omega
    have hvi : M.vx p 0 = i := by unfold M.vx; rw [← hx0]; simp
    have hvj : M.lastV p = j := by unfold M.lastV M.vx; rw [hpl, Nat.add_sub_cancel, ← hx1]; simp
    obtain ⟨ab, ao, ra, rc, L, lr, rfl, -, hlr, cr, hIr⟩ := hS.1.at i hi
    have hL : L = n := by rw [← hIr.1, hlr]; exact hS.2.1.2 i hi
    subst hL
    obtain ⟨rb, ro, z, rfl, -, hz, cz⟩ := hIr.at j hj
    have hze : z = M.ent R i j := by rw [hz, hlr]; rfl
    have hzs := hS.2.2.1 i j hi hj
    rw [← hze] at hzs
    unfold M.Sm at hzs
    have HS := Lib.hid hS
    have HO := Lib.hid hO
    have HNd := Lib.hid hn
    have HDf := Lib.hid hd
    have HPl := Lib.hid hpl
    have HVi := Lib.hid hvi
    have HVj := Lib.hid hvj
    have ht1 : ((N : Int) + 1 - 1) = (N : Int) := by omega
    have hNb : N ≤ 10 := by omega
    simp only [Nat.add_zero] at c0
    have HC : Hid (M.clB (M.ent R) over p wt = (decide (z ≠ -1000000000000000) && decide (over < wt + z))) := by show _ = _; unfold M.clB; rw [hvi, hvj, ← hze]
    clear hlr hIr hz hze hx0 hx1 h0 hN hvi hvj hn hd IH e3 hpl hS hO
    have HCR := Lib.hid cr
    have HCZ := Lib.hid cz
    clear cr cz
    go_enter Try.func175, Try.ntmps175
    go_wp2
    go_quiet (fail)
    generalize hwq : World.drewN w _ = wq
    have hbq : Below w.heap.size w wq := by rw [← hwq]; exact b_draws w _
    have cr := (hbq.cell (cell_lt HCR.out)).trans HCR.out
    have cz := (hbq.cell (cell_lt HCZ.out)).trans HCZ.out
    have HBq := Lib.hid hbq
    clear hwq c0 c1 hbq
    by_cases hc : M.clB (M.ent R) over p wt = true
    · have hcc := hc
      rw [HC.out, Bool.and_eq_true, decide_eq_true_eq, decide_eq_true_eq] at hcc
      obtain ⟨g1, g2⟩ := hcc
      have g3 : (z != -1000000000000000) = true := by simpa using g1
      have HG := Lib.hid (M.grow_yes (A := M.ent R) (n := L) (f := f) hc)
      clear hc g1
      go_wp2
      go_ret
      exact ⟨_, _, _, rfl, by rw [HG.out]; exact HO.out.below HBq.out, HBq.out⟩
    · simp only [Bool.not_eq_true] at hc
      have HG := Lib.hid (M.grow_no (A := M.ent R) (n := L) (f := f) hc)
      have hi1 : IntKind.i64.wrap ((i : Int) + 1) = (i : Int) + 1 := IntWalk.i64_in _ (by omega)
      obtain ⟨g, hg⟩ : ∃ g, g = M.stepG (M.ent R) L over f p wt := ⟨_, rfl⟩
      have HGg := Lib.hid hg
      rw [← hg, HVi.out] at HG
      have hgd : z ≠ -1000000000000000 → decide (over < wt + z) = false := fun hz => by
        rw [HC.out] at hc
        simpa [hz] using hc
      clear hc hg
      by_cases hzb : z = -1000000000000000
      · subst hzb
        clear hgd
        go_wp2
        go_loopw [11, 12] (fun v _ wr => ∃ k : Nat, i + 1 ≤ k ∧ k ≤ L ∧ v = .int .i64 k ∧ Hid (M.pick g (L - (i + 1)) (i + 1) = M.pick g (L - k) k) ∧ Below w.heap.size w wr) (fun v _ _ => L - (intOf v).toNat)
        case atStart => exact ⟨i + 1, by omega, by omega, by go_num, rfl, HBq.out⟩
        case round =>
          obtain ⟨k, hk1, hk2, rfl, HK, hb⟩ := hrel
          have HB1 := Lib.hid hb
          have hz1 : w.heap.size ≤ wr.heap.size := hb.size
          clear hb
          by_cases hk : k < L
          · have hki : (k : Int) < (L : Int) := by omega
            obtain ⟨ab', ao', ra', rc', L', lr, e', -, hlr, ck, hIr⟩ := (HS.out.below HB1.out).1.at k hk
            injection e' with e'
            injection e' with e1 e2 e3
            subst e1 e2
            have hL' : L' = L := by rw [← hIr.1, hlr]; exact HS.out.2.1.2 k hk
            subst hL'
            obtain ⟨rb', ro', y, rfl, -, hy, cy⟩ := hIr.at j hj
            have hye : y = M.ent R k j := by rw [hy, hlr]; rfl
            have hys := HS.out.2.2.1 k j hk hj
            rw [← hye] at hys
            unfold M.Sm at hys
            have HYe := Lib.hid hye
            clear hlr hIr hy hye e3
            by_cases hyb : y = -1000000000000000
            · have hg0 : (g k).length = 0 := by rw [HGg.out]; exact M.step_bot (by rw [HVj.out, ← HYe.out]; exact hyb)
              have HKn : Hid (M.pick g (L' - (i + 1)) (i + 1) = M.pick g (L' - (k + 1)) (k + 1)) := HK.out.trans (M.pick_no hk hg0)
              subst hyb
              clear hg0
              go_wp2
              go_roundw
              case rel => exact ⟨k + 1, by omega, by omega, by go_num, HKn, HB1.out⟩
              case measure => simp [intOf]; omega
            · have gy : (y == -1000000000000000) = false := by simpa using hyb
              have HIr := Lib.hid (HO.out.below HB1.out).ints'
              obtain ⟨hb0, hhb⟩ : ∃ hb0, hb0 = M.hasB p (k : Int) := ⟨_, rfl⟩
              have HHb := Lib.hid hhb
              clear hhb
              cases hb0 with
              | true =>
                have hg0 : (g k).length = 0 := by rw [HGg.out]; exact M.step_has HHb.out.symm
                have HKn : Hid (M.pick g (L' - (i + 1)) (i + 1) = M.pick g (L' - (k + 1)) (k + 1)) := HK.out.trans (M.pick_no hk hg0)
                clear hg0
                go_wp2_with (go_at_call 167; refine (sHas _ _ _ p _ _ (by exact HIr.out)).mono ?_; rintro e w' ⟨rfl, rfl⟩; rw [← HHb.out])
                go_roundw
                case rel => exact ⟨k + 1, by omega, by omega, by go_num, HKn, HB1.out⟩
                case measure => simp [intOf]; omega
              | false =>
                obtain ⟨t, ht⟩ : ∃ t, t = M.grow (M.ent R) L' over f (p ++ [(k : Int)]) (wt + y) := ⟨_, rfl⟩
                have HTt := Lib.hid ht
                have HGk : Hid (g k = t) := by show _ = _; rw [HGg.out, M.step_go (by rw [HVj.out, ← HYe.out]; exact hyb) HHb.out.symm, HVj.out, ← HYe.out]; exact ht.symm
                have HN2 := Lib.hid (M.nodesB_snoc HNd.out hk)
                have HD2 := Lib.hid (M.diffB_snoc HDf.out HHb.out.symm)
                have HIq : Hid (Ints .i64 wr.drew (some ⟨pb, po, none⟩) (N + 1) p) := HIr.out.below (Below.refl _ _).drew
                have hwy : IntKind.i64.wrap (wt + y) = wt + y := IntWalk.i64_in _ (by omega)
                have hA := cell_lt ck
                have hBb := cell_lt cy
                clear ht
                go_wp2_with (go_at_call 167; refine (sHas _ _ _ p _ _ (by exact HIr.out)).mono ?_; rintro e w' ⟨rfl, rfl⟩; rw [← HHb.out])
                go_region_held3 (fun w' => w'.cell? ⟨ab, ao + k, none⟩ = some (.slice (some ⟨rb', ro', none⟩) L' rc') ∧ w'.cell? ⟨rb', ro' + j, none⟩ = some (.int .i64 y) ∧ Below wr.heap.size wr w')
                  (first
                    | exact ⟨ck, cy, (Below.refl _ _).drew⟩
                    | exact keepg ‹_ ∧ _ ∧ Below _ _ _› hA hBb HBa.out
                    | exact keepg ‹_ ∧ _ ∧ Below _ _ _› hA hBb (HBo.out.mono (belowg ‹_ ∧ _ ∧ Below _ _ _›).size)
                    | exact keepg ‹_ ∧ _ ∧ Below _ _ _› hA hBb (HBc.out.mono (belowg ‹_ ∧ _ ∧ Below _ _ _›).size)
                    | exact keepg ‹_ ∧ _ ∧ Below _ _ _› hA hBb ((b_alloc _ _).mono (belowg ‹_ ∧ _ ∧ Below _ _ _›).size))
                  (first
                    | (go_at_call 138; refine (sOwn _ _ _ p _ ?hh ?h1 ?h2).mono ?_; (case hh => (first | exact HIq.out | exact HIq.out.below (b_alloc _ _))); (case h1 => omega); (case h2 => omega); rintro e w1 ⟨b1, c1, rfl, ho, hb⟩; have HO1 := Lib.hid ho; have HBo := Lib.hid hb; clear ho hb)
                    | (go_at_call 175; refine (HIH.out _ (N + 1 + 1) _ _ (wt + y) wr.heap.size _ ?hs HO2.out HN2.out HD2.out (by omega) (by omega) (by omega) (by omega) ?hz).mono ?_; (case hs => exact HS.out.below (HB1.out.trans ((belowg ‹_ ∧ _ ∧ Below _ _ _›).mono hz1))); (case hz => exact (belowg ‹_ ∧ _ ∧ Below _ _ _›).size); rintro e w3 ⟨b3, n3, c3, rfl, ho, hb⟩; have HO3 := Lib.hid ho; have HBc := Lib.hid hb; clear ho hb)
                    | (refine step_append1 _ rfl _ _ rfl wr.heap.size _ p (k : Int) _ (N + 1) HPl.out rfl ?ho rfl ?hy ?hl ?hb ?_; (case ho => (first | exact HO1.out.mono (Nat.le_refl _) | exact HO1.out.mono (by simp) | exact (HO1.out.below (b_alloc _ _)).mono (Nat.le_refl _))); (case hy => (first | (simp; done) | exact new_kept (wd := wr.drew) HBo.out)); (case hl => omega); (case hb => exact (belowg ‹_ ∧ _ ∧ Below _ _ _›).size); intro b2 c2 w2 ho hb; have HO2 := Lib.hid ho; have HBa := Lib.hid hb; clear ho hb))
                all_goals
                  have hbz : Below wr.heap.size wr w3 := by
                    first
                      | exact belowg ‹_ ∧ _ ∧ Below _ _ _›
                      | exact (belowg ‹_ ∧ _ ∧ Below wr.heap.size wr w2›).trans (HBc.out.mono (belowg ‹_ ∧ _ ∧ Below wr.heap.size wr w2›).size)
                  have HBz := Lib.hid (HB1.out.trans (hbz.mono hz1))
                  rw [← HTt.out] at HO3
                  have hlt := HO3.out.len
                  clear hbz
                  by_cases hn3 : n3 = 0
                  · subst hn3
                    have HKn : Hid (M.pick g (L' - (i + 1)) (i + 1) = M.pick g (L' - (k + 1)) (k + 1)) := HK.out.trans (M.pick_no hk (by rw [HGk.out]; exact hlt.symm))
                    clear hlt
                    go_wp2
                    go_roundw
                    case rel => exact ⟨k + 1, by omega, by omega, by go_num, HKn, HBz.out⟩
                    case measure => simp [intOf]; omega
                  · have HE : Hid (M.grow (M.ent R) L' over (f + 1) p wt = t) := HG.out.trans (HK.out.trans ((M.pick_yes hk (by rw [HGk.out]; omega)).trans HGk.out))
                    have hn3p : 0 < n3 := by omega
                    clear hlt
                    go_wp2
                    go_ret
                    exact ⟨_, _, _, rfl, by rw [HE.out]; exact HO3.out.mono (Nat.le_trans hB hz1), HBz.out⟩
          · obtain rfl : k = L := by omega
            have HE : Hid (M.grow (M.ent R) k over (f + 1) p wt = []) := HG.out.trans (HK.out.trans M.pick_end)
            go_wp2
            go_ret
            exact ⟨_, _, _, rfl, by rw [HE.out]; exact own_nil _ _, HB1.out⟩
      · have g3 : (z != -1000000000000000) = true := by simpa using hzb
        have g4 := hgd hzb
        clear hgd hzb
        go_wp2
        go_loopw [11, 12] (fun v _ wr => ∃ k : Nat, i + 1 ≤ k ∧ k ≤ L ∧ v = .int .i64 k ∧ Hid (M.pick g (L - (i + 1)) (i + 1) = M.pick g (L - k) k) ∧ Below w.heap.size w wr) (fun v _ _ => L - (intOf v).toNat)
        case atStart => exact ⟨i + 1, by omega, by omega, by go_num, rfl, HBq.out⟩
        case round =>
          obtain ⟨k, hk1, hk2, rfl, HK, hb⟩ := hrel
          have HB1 := Lib.hid hb
          have hz1 : w.heap.size ≤ wr.heap.size := hb.size
          clear hb
          by_cases hk : k < L
          · have hki : (k : Int) < (L : Int) := by omega
            obtain ⟨ab', ao', ra', rc', L', lr, e', -, hlr, ck, hIr⟩ := (HS.out.below HB1.out).1.at k hk
            injection e' with e'
            injection e' with e1 e2 e3
            subst e1 e2
            have hL' : L' = L := by rw [← hIr.1, hlr]; exact HS.out.2.1.2 k hk
            subst hL'
            obtain ⟨rb', ro', y, rfl, -, hy, cy⟩ := hIr.at j hj
            have hye : y = M.ent R k j := by rw [hy, hlr]; rfl
            have hys := HS.out.2.2.1 k j hk hj
            rw [← hye] at hys
            unfold M.Sm at hys
            have HYe := Lib.hid hye
            clear hlr hIr hy hye e3
            by_cases hyb : y = -1000000000000000
            · have hg0 : (g k).length = 0 := by rw [HGg.out]; exact M.step_bot (by rw [HVj.out, ← HYe.out]; exact hyb)
              have HKn : Hid (M.pick g (L' - (i + 1)) (i + 1) = M.pick g (L' - (k + 1)) (k + 1)) := HK.out.trans (M.pick_no hk hg0)
              subst hyb
              clear hg0
              go_wp2
              go_roundw
              case rel => exact ⟨k + 1, by omega, by omega, by go_num, HKn, HB1.out⟩
              case measure => simp [intOf]; omega
            · have gy : (y == -1000000000000000) = false := by simpa using hyb
              have HIr := Lib.hid (HO.out.below HB1.out).ints'
              obtain ⟨hb0, hhb⟩ : ∃ hb0, hb0 = M.hasB p (k : Int) := ⟨_, rfl⟩
              have HHb := Lib.hid hhb
              clear hhb
              cases hb0 with
              | true =>
                have hg0 : (g k).length = 0 := by rw [HGg.out]; exact M.step_has HHb.out.symm
                have HKn : Hid (M.pick g (L' - (i + 1)) (i + 1) = M.pick g (L' - (k + 1)) (k + 1)) := HK.out.trans (M.pick_no hk hg0)
                clear hg0
                go_wp2_with (go_at_call 167; refine (sHas _ _ _ p _ _ (by exact HIr.out)).mono ?_; rintro e w' ⟨rfl, rfl⟩; rw [← HHb.out])
                go_roundw
                case rel => exact ⟨k + 1, by omega, by omega, by go_num, HKn, HB1.out⟩
                case measure => simp [intOf]; omega
              | false =>
                obtain ⟨t, ht⟩ : ∃ t, t = M.grow (M.ent R) L' over f (p ++ [(k : Int)]) (wt + y) := ⟨_, rfl⟩
                have HTt := Lib.hid ht
                have HGk : Hid (g k = t) := by show _ = _; rw [HGg.out, M.step_go (by rw [HVj.out, ← HYe.out]; exact hyb) HHb.out.symm, HVj.out, ← HYe.out]; exact ht.symm
                have HN2 := Lib.hid (M.nodesB_snoc HNd.out hk)
                have HD2 := Lib.hid (M.diffB_snoc HDf.out HHb.out.symm)
                have HIq : Hid (Ints .i64 wr.drew (some ⟨pb, po, none⟩) (N + 1) p) := HIr.out.below (Below.refl _ _).drew
                have hwy : IntKind.i64.wrap (wt + y) = wt + y := IntWalk.i64_in _ (by omega)
                have hA := cell_lt ck
                have hBb := cell_lt cy
                clear ht
                go_wp2_with (go_at_call 167; refine (sHas _ _ _ p _ _ (by exact HIr.out)).mono ?_; rintro e w' ⟨rfl, rfl⟩; rw [← HHb.out])
                go_region_held3 (fun w' => w'.cell? ⟨ab, ao + k, none⟩ = some (.slice (some ⟨rb', ro', none⟩) L' rc') ∧ w'.cell? ⟨rb', ro' + j, none⟩ = some (.int .i64 y) ∧ Below wr.heap.size wr w')
                  (first
                    | exact ⟨ck, cy, (Below.refl _ _).drew⟩
                    | exact keepg ‹_ ∧ _ ∧ Below _ _ _› hA hBb HBa.out
                    | exact keepg ‹_ ∧ _ ∧ Below _ _ _› hA hBb (HBo.out.mono (belowg ‹_ ∧ _ ∧ Below _ _ _›).size)
                    | exact keepg ‹_ ∧ _ ∧ Below _ _ _› hA hBb (HBc.out.mono (belowg ‹_ ∧ _ ∧ Below _ _ _›).size)
                    | exact keepg ‹_ ∧ _ ∧ Below _ _ _› hA hBb ((b_alloc _ _).mono (belowg ‹_ ∧ _ ∧ Below _ _ _›).size))
                  (first
                    | (go_at_call 138; refine (sOwn _ _ _ p _ ?hh ?h1 ?h2).mono ?_; (case hh => (first | exact HIq.out | exact HIq.out.below (b_alloc _ _))); (case h1 => omega); (case h2 => omega); rintro e w1 ⟨b1, c1, rfl, ho, hb⟩; have HO1 := Lib.hid ho; have HBo := Lib.hid hb; clear ho hb)
                    | (go_at_call 175; refine (HIH.out _ (N + 1 + 1) _ _ (wt + y) wr.heap.size _ ?hs HO2.out HN2.out HD2.out (by omega) (by omega) (by omega) (by omega) ?hz).mono ?_; (case hs => exact HS.out.below (HB1.out.trans ((belowg ‹_ ∧ _ ∧ Below _ _ _›).mono hz1))); (case hz => exact (belowg ‹_ ∧ _ ∧ Below _ _ _›).size); rintro e w3 ⟨b3, n3, c3, rfl, ho, hb⟩; have HO3 := Lib.hid ho; have HBc := Lib.hid hb; clear ho hb)
                    | (refine step_append1 _ rfl _ _ rfl wr.heap.size _ p (k : Int) _ (N + 1) HPl.out rfl ?ho rfl ?hy ?hl ?hb ?_; (case ho => (first | exact HO1.out.mono (Nat.le_refl _) | exact HO1.out.mono (by simp) | exact (HO1.out.below (b_alloc _ _)).mono (Nat.le_refl _))); (case hy => (first | (simp; done) | exact new_kept (wd := wr.drew) HBo.out)); (case hl => omega); (case hb => exact (belowg ‹_ ∧ _ ∧ Below _ _ _›).size); intro b2 c2 w2 ho hb; have HO2 := Lib.hid ho; have HBa := Lib.hid hb; clear ho hb))
                all_goals
                  have hbz : Below wr.heap.size wr w3 := by
                    first
                      | exact belowg ‹_ ∧ _ ∧ Below _ _ _›
                      | exact (belowg ‹_ ∧ _ ∧ Below wr.heap.size wr w2›).trans (HBc.out.mono (belowg ‹_ ∧ _ ∧ Below wr.heap.size wr w2›).size)
                  have HBz := Lib.hid (HB1.out.trans (hbz.mono hz1))
                  rw [← HTt.out] at HO3
                  have hlt := HO3.out.len
                  clear hbz
                  by_cases hn3 : n3 = 0
                  · subst hn3
                    have HKn : Hid (M.pick g (L' - (i + 1)) (i + 1) = M.pick g (L' - (k + 1)) (k + 1)) := HK.out.trans (M.pick_no hk (by rw [HGk.out]; exact hlt.symm))
                    clear hlt
                    go_wp2
                    go_roundw
                    case rel => exact ⟨k + 1, by omega, by omega, by go_num, HKn, HBz.out⟩
                    case measure => simp [intOf]; omega
                  · have HE : Hid (M.grow (M.ent R) L' over (f + 1) p wt = t) := HG.out.trans (HK.out.trans ((M.pick_yes hk (by rw [HGk.out]; omega)).trans HGk.out))
                    have hn3p : 0 < n3 := by omega
                    clear hlt
                    go_wp2
                    go_ret
                    exact ⟨_, _, _, rfl, by rw [HE.out]; exact HO3.out.mono (Nat.le_trans hB hz1), HBz.out⟩
          · obtain rfl : k = L := by omega
            have HE : Hid (M.grow (M.ent R) k over (f + 1) p wt = []) := HG.out.trans (HK.out.trans M.pick_end)
            go_wp2
            go_ret
            exact ⟨_, _, _, rfl, by rw [HE.out]; exact own_nil _ _, HB1.out⟩
end Go.Proofs.Ytjbffpmelglegaa.V

namespace Go.Proofs.Ytjbffpmelglegaa
namespace V
open Go.RowKit
theorem rlit (w : World) (B : Nat) (x : Int) (h : B ≤ w.heap.size) : Own (w.alloc (.cells #[.int .i64 x] 2)) B (.slice (some ⟨w.heap.size, 0, none⟩) 1 1) [x] := World.ownsRow_lit w #[.int .i64 x] 1 h (by decide) rfl
set_option maxRecDepth 100000 in
set_option maxHeartbeats 1000000 in
theorem sOver (a : Option Addr) (n cap : Nat) (R : List (List Int)) (over : Int) (w : World) (h : Sq w a n R) :
    Calls Try.prog 153 #[.slice a n cap, .int .i64 over] w fun e w' => ∃ b' n' c', e = .returned (.slice b' n' c') ∧ Own w' w.heap.size (.slice b' n' c') (M.overL (M.ent R) n over) ∧ Below w.heap.size w w' := by
  have HS := Lib.hid h
  have hn10 := h.2.2.2.2
  obtain ⟨g, hg⟩ : ∃ g : Nat → List Int, g = fun v : Nat => M.grow (M.ent R) n over n [(v : Int)] 0 := ⟨_, rfl⟩
  have HG : Hid (M.overL (M.ent R) n over = M.pick g n 0) := by show _ = _; rw [hg]; rfl
  have HGg : Hid (∀ v : Nat, g v = M.grow (M.ent R) n over n [(v : Int)] 0) := fun v => by rw [hg]
  clear h hg
  go_enter Try.func153, Try.ntmps153
  go_wp2
  go_loopw [5, 6] (fun v _ wr => ∃ k : Nat, k ≤ n ∧ v = .int .i64 k ∧ Hid (M.pick g n 0 = M.pick g (n - k) k) ∧ Below w.heap.size w wr) (fun v _ _ => n - (intOf v).toNat)
  case atStart => exact ⟨0, Nat.zero_le _, rfl, rfl, Below.refl _ _⟩
  case round =>
    obtain ⟨k, hk2, rfl, HK, hb⟩ := hrel
    have HB1 := Lib.hid hb
    have hz1 : w.heap.size ≤ wr.heap.size := hb.size
    clear hb
    by_cases hk : k < n
    · have hki : (k : Int) < (n : Int) := by omega
      obtain ⟨t, ht⟩ : ∃ t, t = M.grow (M.ent R) n over n [(k : Int)] 0 := ⟨_, rfl⟩
      have HTt := Lib.hid ht
      have HGk : Hid (g k = t) := (HGg.out k).trans ht.symm
      have HN2 : Hid (M.nodesB n [(k : Int)] = true) := by show _ = _; unfold M.nodesB; simp [M.inN]; omega
      have HD2 : Hid (M.diffB [(k : Int)] = true) := M.diffB_of (fun i hi => by
        simp at hi; subst hi; rfl)
      have HLit := Lib.hid (rlit wr w.heap.size (k : Int) hz1)
      have HSl := Lib.hid (HS.out.below (HB1.out.alloc hz1 (.cells #[.int .i64 (k : Int)] 2)))
      clear ht
      go_wp2_with fail
      refine (sGrow _ _ _ R over n _ 1 _ [(k : Int)] 0 w.heap.size _ HSl.out HLit.out HN2.out HD2.out (by omega) (by omega) (by omega) (by omega) (by simp; omega)).mono ?_
      rintro e w3 ⟨b3, n3, c3, rfl, ho, hb⟩
      rw [← HTt.out] at ho
      have hlt := ho.len
      have HO3 := Lib.hid ho
      have HBz := Lib.hid ((HB1.out.alloc hz1 (.cells #[.int .i64 (k : Int)] 2)).trans (hb.mono (by simp; omega)))
      clear ho hb
      by_cases hn3 : n3 = 0
      · subst hn3
        have HKn : Hid (M.pick g n 0 = M.pick g (n - (k + 1)) (k + 1)) := HK.out.trans (M.pick_no hk (by rw [HGk.out]; exact hlt.symm))
        clear hlt
        go_wp2
        go_roundw
        case rel => exact ⟨k + 1, by omega, by go_num, HKn, HBz.out⟩
        case measure => simp [intOf]; omega
      · have HE : Hid (M.overL (M.ent R) n over = t) := HG.out.trans (HK.out.trans ((M.pick_yes hk (by rw [HGk.out]; omega)).trans HGk.out))
        have hn3p : 0 < n3 := by omega
        clear hlt
        go_wp2
        go_ret
        exact ⟨_, _, _, rfl, by rw [HE.out]; exact HO3.out, HBz.out⟩
    · obtain rfl : k = n := by omega
      have HE : Hid (M.overL (M.ent R) k over = []) := HG.out.trans (HK.out.trans M.pick_end)
      go_wp2
      go_ret
      exact ⟨_, _, _, rfl, by rw [HE.out]; exact own_nil _ _, HB1.out⟩
end V
end Go.Proofs.Ytjbffpmelglegaa

namespace Go.Proofs.Ytjbffpmelglegaa.V
open Go Go.RowKit Go.Shelf
attribute [local go_sem] Oper.semAt_some

theorem own_head {w : World} {B n c : Nat} {b : Option Addr} {p : List Int} (h : Own w B (.slice b n c) p) (hn : 0 < p.length) : ∃ g, b = some ⟨g, 0, none⟩ ∧ B ≤ g := by
  obtain ⟨a', c', hv, -, -, hg⟩ := own_form h
  injection hv with e1 e2 e3
  obtain ⟨g, h1, h2, -⟩ := hg hn
  exact ⟨g, by rw [e1]; exact h1, h2⟩

end Go.Proofs.Ytjbffpmelglegaa.V
namespace Go.Proofs.Ytjbffpmelglegaa.M
theorem pick_len {g : Nat → List Int} {m : Nat} (h : ∀ v, (g v).length ≤ m) : ∀ c k, (pick g c k).length ≤ m := by
  intro c
  induction c with
  | zero => intro k; exact Nat.zero_le _
  | succ c ih =>
    intro k
    show (if _ then _ else _ : List Int).length ≤ m
    split
    · exact ih _
    · exact h k
theorem posRes_len (R : List (List Int)) : (posRes R).1.length ≤ 11 := by
  unfold posRes
  split
  · next h =>
    obtain ⟨m1, m2, -⟩ := isMat_t (sqB_t h).1
    split
    · simp
    · have := pick_len (g := fun v => grow (ent R) R.length 0 R.length [(v : Int)] 0) (m := 11) (fun v => by
        have := grow_nodes (ent R) R.length 0 R.length [(v : Int)] 0
        simp at this; omega) R.length 0
      exact this
  · simp
end Go.Proofs.Ytjbffpmelglegaa.M
