/- Texts laid together: Gr1, Gr2, It5, Mat1, Mark. -/
import Derived.Test.YtmhpgnndjagogaaGreatQz1
import Derived.Test.YtmhpgnndjagogaaGreatQz8
import Derived.Test.YtmhpgnndjagogaaGreatQz4
import Derived.Test.YtmhpgnndjagogaaGreatQz10
import Derived.Test.YtmhpgnndjagogaaGreatQz6
import Derived.Test.YtmhpgnndjagogaaGreatQz7
import Derived.WalkMore
import Derived.Deep.LoopGhost
import Derived.Scope
import Derived.Test.YtmhpgnndjagogaaGreatRows
import Derived.Test.YtmhpgnndjagogaaGreatQz2
import Derived.WalkKit
import Derived.ProofKit
import Derived.WalkSmall
import Derived.Deep.QuietTactic
import Derived.BigQuiet
import Derived.BigRegion
import Derived.Deep.Draws
import Derived.Lib.Hide
import Derived.OpenShut
import Derived.Deep.OwnRows
set_option linter.unusedSimpArgs false
set_option linter.unusedVariables false
set_option linter.unusedSectionVars false
namespace Go.Proofs.YtmhpgnndjagogaaGreat.V
open Go.RowKit

theorem keepg {w0 w w' : World} {B : Nat} {p q : Addr} {x y : Value} (h : w.cell? p = some x ∧ w.cell? q = some y ∧ Below B w0 w) (hp : p.block < B) (hq : q.block < B) (hb : Below B w w') : w'.cell? p = some x ∧ w'.cell? q = some y ∧ Below B w0 w' :=
  ⟨(hb.cell hp).trans h.1, (hb.cell hq).trans h.2.1, h.2.2.trans hb⟩
theorem belowg {w0 w : World} {B : Nat} {P Q : Prop} (h : P ∧ Q ∧ Below B w0 w) : Below B w0 w := h.2.2
set_option maxRecDepth 100000 in
set_option maxHeartbeats 4000000 in
theorem sGrow (a : Option Addr) (n cap : Nat) (R : List (List Int)) (over : Int) (f : Nat) : ∀ (b : Option Addr) (N c : Nat) (p : List Int) (wt : Int) (B : Nat) (w : World), Sq w a n R → Own w B (.slice b N c) p → M.nodesB n p = true → M.diffB p = true → 1 ≤ N → n + 1 ≤ f + N → -1000001000000 * (N : Int) ≤ wt → wt ≤ 1000001000000 * (N : Int) → B ≤ w.heap.size →
    Calls Tryz.prog 166 #[.slice a n cap, .slice b N c, .int .i64 wt, .int .i64 over] w fun e w' => ∃ b' n' c', e = .returned (.slice b' n' c') ∧ Own w' B (.slice b' n' c') (M.grow (M.ent R) n over f p wt) ∧ Below w.heap.size w w' := by
  induction f with
  | zero =>
    intro b N c p wt B w hS hO hn hd h1 hf hw1 hw2 hB
    have := M.diffB_len hn hd
    have := hO.len
    omega
  | succ f IH =>
    intro b N c p wt B w hS hO hn hd h1 hf hw1 hw2 hB
    obtain ⟨N, rfl⟩ : ∃ m, N = m + 1 := ⟨N - 1, by omega⟩
    have HIH := Lib.hid IH
    have hpl : p.length = N + 1 := hO.len.symm
    have hle := M.diffB_len hn hd
    have hn10 := hS.2.2.2.2
    have h0 := M.nodesB_at hn (k := 0) (by omega)
    have hN := M.nodesB_at hn (k := N) (by omega)
    obtain ⟨pb, po, x0, rfl, -, hx0, c0⟩ := hO.ints'.at 0 (by omega)
    obtain ⟨pb2, po2, x1, hpe, -, hx1, c1⟩ := hO.ints'.at N (by omega)
    injection hpe with hpe
    injection hpe with e1 e2 e3
    subst e1 e2
    rw [← hx0] at h0
    rw [← hx1] at hN
    obtain ⟨i, rfl⟩ := Int.eq_ofNat_of_zero_le h0.1
    obtain ⟨j, rfl⟩ := Int.eq_ofNat_of_zero_le hN.1
    have hi : i < n := by omega
    have hj : j < n := by omega
    have hvi : M.vx p 0 = i := by unfold M.vx; rw [← hx0]; simp
    have hvj : M.lastV p = j := by unfold M.lastV M.vx; rw [hpl, Nat.add_sub_cancel, ← hx1]; simp
    obtain ⟨ab, ao, ra, rc, L, lr, rfl, -, hlr, cr, hIr⟩ := hS.1.at i hi
    have hL : L = n := by rw [← hIr.1, hlr]; exact hS.2.1.2 i hi
    subst hL
    obtain ⟨rb, ro, z, rfl, -, hz, cz⟩ := hIr.at j hj
    have hze : z = M.ent R i j := by rw [hz, hlr]; rfl
    have hzs := hS.2.2.1 i j hi hj
    rw [← hze] at hzs
    unfold M.Sm at hzs
    have HS := Lib.hid hS
    have HO := Lib.hid hO
    have HNd := Lib.hid hn
    have HDf := Lib.hid hd
    have HPl := Lib.hid hpl
    have HVi := Lib.hid hvi
    have HVj := Lib.hid hvj
    have ht1 : ((N : Int) + 1 - 1) = (N : Int) := by omega
    have hNb : N ≤ 10 := by omega
    simp only [Nat.add_zero] at c0
    have HC : Hid (M.clB (M.ent R) over p wt = (decide (z ≠ -1000000000000000) && decide (over < wt + z))) := by show _ = _; unfold M.clB; rw [hvi, hvj, ← hze]
    clear hlr hIr hz hze hx0 hx1 h0 hN hvi hvj hn hd IH e3 hpl hS hO
    have HCR := Lib.hid cr
    have HCZ := Lib.hid cz
    clear cr cz
    go_enter Tryz.func166, Tryz.ntmps166
    go_wp2
    go_quiet (fail)
    generalize hwq : World.drewN w _ = wq
    have hbq : Below w.heap.size w wq := by rw [← hwq]; exact b_draws w _
    have cr := (hbq.cell (cell_lt HCR.out)).trans HCR.out
    have cz := (hbq.cell (cell_lt HCZ.out)).trans HCZ.out
    have HBq := Lib.hid hbq
    clear hwq c0 c1 hbq
    by_cases hc : M.clB (M.ent R) over p wt = true
    · have hcc := hc
      rw [HC.out, Bool.and_eq_true, decide_eq_true_eq, decide_eq_true_eq] at hcc
      obtain ⟨g1, g2⟩ := hcc
      have g3 : (z != -1000000000000000) = true := by simpa using g1
      have HG := Lib.hid (M.grow_yes (A := M.ent R) (n := L) (f := f) hc)
      clear hc g1
      go_wp2
      go_ret
      exact ⟨_, _, _, rfl, by rw [HG.out]; exact HO.out.below HBq.out, HBq.out⟩
    · simp only [Bool.not_eq_true] at hc
      have HG := Lib.hid (M.grow_no (A := M.ent R) (n := L) (f := f) hc)
      have hi1 : IntKind.i64.wrap ((i : Int) + 1) = (i : Int) + 1 := IntWalk.i64_in _ (by omega)
      obtain ⟨g, hg⟩ : ∃ g, g = M.stepG (M.ent R) L over f p wt := ⟨_, rfl⟩
      have HGg := Lib.hid hg
      rw [← hg, HVi.out] at HG
      have hgd : z ≠ -1000000000000000 → decide (over < wt + z) = false := fun hz => by
        rw [HC.out] at hc
        simpa [hz] using hc
      clear hc hg
      by_cases hzb : z = -1000000000000000
      · subst hzb
        clear hgd
        go_wp2
        go_loopw [11, 12] (fun v _ wr => ∃ k : Nat, i + 1 ≤ k ∧ k ≤ L ∧ v = .int .i64 k ∧ Hid (M.pick g (L - (i + 1)) (i + 1) = M.pick g (L - k) k) ∧ Below w.heap.size w wr) (fun v _ _ => L - (intOf v).toNat)
        case atStart => exact ⟨i + 1, by omega, by omega, by go_num, rfl, HBq.out⟩
        case round =>
          obtain ⟨k, hk1, hk2, rfl, HK, hb⟩ := hrel
          have HB1 := Lib.hid hb
          have hz1 : w.heap.size ≤ wr.heap.size := hb.size
          clear hb
          by_cases hk : k < L
          · have hki : (k : Int) < (L : Int) := by omega
            obtain ⟨ab', ao', ra', rc', L', lr, e', -, hlr, ck, hIr⟩ := (HS.out.below HB1.out).1.at k hk
            injection e' with e'
            injection e' with e1 e2 e3
            subst e1 e2
            have hL' : L' = L := by rw [← hIr.1, hlr]; exact HS.out.2.1.2 k hk
            subst hL'
            obtain ⟨rb', ro', y, rfl, -, hy, cy⟩ := hIr.at j hj
            have hye : y = M.ent R k j := by rw [hy, hlr]; rfl
            have hys := HS.out.2.2.1 k j hk hj
            rw [← hye] at hys
            unfold M.Sm at hys
            have HYe := Lib.hid hye
            clear hlr hIr hy hye e3
            by_cases hyb : y = -1000000000000000
            · have hg0 : (g k).length = 0 := by rw [HGg.out]; exact M.step_bot (by rw [HVj.out, ← HYe.out]; exact hyb)
              have HKn : Hid (M.pick g (L' - (i + 1)) (i + 1) = M.pick g (L' - (k + 1)) (k + 1)) := HK.out.trans (M.pick_no hk hg0)
              subst hyb
              clear hg0
              go_wp2
              go_roundw
              case rel => exact ⟨k + 1, by omega, by omega, by go_num, HKn, HB1.out⟩
              case measure => simp [intOf]; omega
            · have gy : (y == -1000000000000000) = false := by simpa using hyb
              have HIr := Lib.hid (HO.out.below HB1.out).ints'
              obtain ⟨hb0, hhb⟩ : ∃ hb0, hb0 = M.hasB p (k : Int) := ⟨_, rfl⟩
              have HHb := Lib.hid hhb
              clear hhb
              cases hb0 with
              | true =>
                have hg0 : (g k).length = 0 := by rw [HGg.out]; exact M.step_has HHb.out.symm
                have HKn : Hid (M.pick g (L' - (i + 1)) (i + 1) = M.pick g (L' - (k + 1)) (k + 1)) := HK.out.trans (M.pick_no hk hg0)
                clear hg0
                go_wp2_with (go_at_call 92; refine (sHas _ _ _ p _ _ (by exact HIr.out)).mono ?_; rintro e w' ⟨rfl, rfl⟩; rw [← HHb.out])
                go_roundw
                case rel => exact ⟨k + 1, by omega, by omega, by go_num, HKn, HB1.out⟩
                case measure => simp [intOf]; omega
              | false =>
                obtain ⟨t, ht⟩ : ∃ t, t = M.grow (M.ent R) L' over f (p ++ [(k : Int)]) (wt + y) := ⟨_, rfl⟩
                have HTt := Lib.hid ht
                have HGk : Hid (g k = t) := by show _ = _; rw [HGg.out, M.step_go (by rw [HVj.out, ← HYe.out]; exact hyb) HHb.out.symm, HVj.out, ← HYe.out]; exact ht.symm
                have HN2 := Lib.hid (M.nodesB_snoc HNd.out hk)
                have HD2 := Lib.hid (M.diffB_snoc HDf.out HHb.out.symm)
                have HIq : Hid (Ints .i64 wr.drew (some ⟨pb, po, none⟩) (N + 1) p) := HIr.out.below (Below.refl _ _).drew
                have hwy : IntKind.i64.wrap (wt + y) = wt + y := IntWalk.i64_in _ (by omega)
                have hA := cell_lt ck
                have hBb := cell_lt cy
                clear ht
                go_wp2_with (go_at_call 92; refine (sHas _ _ _ p _ _ (by exact HIr.out)).mono ?_; rintro e w' ⟨rfl, rfl⟩; rw [← HHb.out])
                go_region_held3 (fun w' => w'.cell? ⟨ab, ao + k, none⟩ = some (.slice (some ⟨rb', ro', none⟩) L' rc') ∧ w'.cell? ⟨rb', ro' + j, none⟩ = some (.int .i64 y) ∧ Below wr.heap.size wr w')
                  (first
                    | exact ⟨ck, cy, (Below.refl _ _).drew⟩
                    | exact keepg ‹_ ∧ _ ∧ Below _ _ _› hA hBb HBa.out
                    | exact keepg ‹_ ∧ _ ∧ Below _ _ _› hA hBb (HBo.out.mono (belowg ‹_ ∧ _ ∧ Below _ _ _›).size)
                    | exact keepg ‹_ ∧ _ ∧ Below _ _ _› hA hBb (HBc.out.mono (belowg ‹_ ∧ _ ∧ Below _ _ _›).size)
                    | exact keepg ‹_ ∧ _ ∧ Below _ _ _› hA hBb ((b_alloc _ _).mono (belowg ‹_ ∧ _ ∧ Below _ _ _›).size))
                  (first
                    | (go_at_call 100; refine (sOwn _ _ _ p _ ?hh ?h1 ?h2).mono ?_; (case hh => (first | exact HIq.out | exact HIq.out.below (b_alloc _ _))); (case h1 => omega); (case h2 => omega); rintro e w1 ⟨b1, c1, rfl, ho, hb⟩; have HO1 := Lib.hid ho; have HBo := Lib.hid hb; clear ho hb)
                    | (go_at_call 166; refine (HIH.out _ (N + 1 + 1) _ _ (wt + y) wr.heap.size _ ?hs HO2.out HN2.out HD2.out (by omega) (by omega) (by omega) (by omega) ?hz).mono ?_; (case hs => exact HS.out.below (HB1.out.trans ((belowg ‹_ ∧ _ ∧ Below _ _ _›).mono hz1))); (case hz => exact (belowg ‹_ ∧ _ ∧ Below _ _ _›).size); rintro e w3 ⟨b3, n3, c3, rfl, ho, hb⟩; have HO3 := Lib.hid ho; have HBc := Lib.hid hb; clear ho hb)
                    | (refine step_append1 _ rfl _ _ rfl wr.heap.size _ p (k : Int) _ (N + 1) HPl.out rfl ?ho rfl ?hy ?hl ?hb ?_; (case ho => (first | exact HO1.out.mono (Nat.le_refl _) | exact HO1.out.mono (by simp) | exact (HO1.out.below (b_alloc _ _)).mono (Nat.le_refl _))); (case hy => (first | (simp; done) | exact new_kept (wd := wr.drew) HBo.out)); (case hl => omega); (case hb => exact (belowg ‹_ ∧ _ ∧ Below _ _ _›).size); intro b2 c2 w2 ho hb; have HO2 := Lib.hid ho; have HBa := Lib.hid hb; clear ho hb))
                all_goals
                  have hbz : Below wr.heap.size wr w3 := by
                    first
                      | exact belowg ‹_ ∧ _ ∧ Below _ _ _›
                      | exact (belowg ‹_ ∧ _ ∧ Below wr.heap.size wr w2›).trans (HBc.out.mono (belowg ‹_ ∧ _ ∧ Below wr.heap.size wr w2›).size)
                  have HBz := Lib.hid (HB1.out.trans (hbz.mono hz1))
                  rw [← HTt.out] at HO3
                  have hlt := HO3.out.len
                  clear hbz
                  by_cases hn3 : n3 = 0
                  · subst hn3
                    have HKn : Hid (M.pick g (L' - (i + 1)) (i + 1) = M.pick g (L' - (k + 1)) (k + 1)) := HK.out.trans (M.pick_no hk (by rw [HGk.out]; exact hlt.symm))
                    clear hlt
                    go_wp2
                    go_roundw
                    case rel => exact ⟨k + 1, by omega, by omega, by go_num, HKn, HBz.out⟩
                    case measure => simp [intOf]; omega
                  · have HE : Hid (M.grow (M.ent R) L' over (f + 1) p wt = t) := HG.out.trans (HK.out.trans ((M.pick_yes hk (by rw [HGk.out]; omega)).trans HGk.out))
                    have hn3p : 0 < n3 := by omega
                    clear hlt
                    go_wp2
                    go_ret
                    exact ⟨_, _, _, rfl, by rw [HE.out]; exact HO3.out.mono (Nat.le_trans hB hz1), HBz.out⟩
          · obtain rfl : k = L := by omega
            have HE : Hid (M.grow (M.ent R) k over (f + 1) p wt = []) := HG.out.trans (HK.out.trans M.pick_end)
            go_wp2
            go_ret
            exact ⟨_, _, _, rfl, by rw [HE.out]; exact own_nil _ _, HB1.out⟩
      · have g3 : (z != -1000000000000000) = true := by simpa using hzb
        have g4 := hgd hzb
        clear hgd hzb
        go_wp2
        go_loopw [11, 12] (fun v _ wr => ∃ k : Nat, i + 1 ≤ k ∧ k ≤ L ∧ v = .int .i64 k ∧ Hid (M.pick g (L - (i + 1)) (i + 1) = M.pick g (L - k) k) ∧ Below w.heap.size w wr) (fun v _ _ => L - (intOf v).toNat)
        case atStart => exact ⟨i + 1, by omega, by omega, by go_num, rfl, HBq.out⟩
        case round =>
          obtain ⟨k, hk1, hk2, rfl, HK, hb⟩ := hrel
          have HB1 := Lib.hid hb
          have hz1 : w.heap.size ≤ wr.heap.size := hb.size
          clear hb
          by_cases hk : k < L
          · have hki : (k : Int) < (L : Int) := by omega
            obtain ⟨ab', ao', ra', rc', L', lr, e', -, hlr, ck, hIr⟩ := (HS.out.below HB1.out).1.at k hk
            injection e' with e'
            injection e' with e1 e2 e3
            subst e1 e2
            have hL' : L' = L := by rw [← hIr.1, hlr]; exact HS.out.2.1.2 k hk
            subst hL'
            obtain ⟨rb', ro', y, rfl, -, hy, cy⟩ := hIr.at j hj
            have hye : y = M.ent R k j := by rw [hy, hlr]; rfl
            have hys := HS.out.2.2.1 k j hk hj
            rw [← hye] at hys
            unfold M.Sm at hys
            have HYe := Lib.hid hye
            clear hlr hIr hy hye e3
            by_cases hyb : y = -1000000000000000
            · have hg0 : (g k).length = 0 := by rw [HGg.out]; exact M.step_bot (by rw [HVj.out, ← HYe.out]; exact hyb)
              have HKn : Hid (M.pick g (L' - (i + 1)) (i + 1) = M.pick g (L' - (k + 1)) (k + 1)) := HK.out.trans (M.pick_no hk hg0)
              subst hyb
              clear hg0
              go_wp2
              go_roundw
              case rel => exact ⟨k + 1, by omega, by omega, by go_num, HKn, HB1.out⟩
              case measure => simp [intOf]; omega
            · have gy : (y == -1000000000000000) = false := by simpa using hyb
              have HIr := Lib.hid (HO.out.below HB1.out).ints'
              obtain ⟨hb0, hhb⟩ : ∃ hb0, hb0 = M.hasB p (k : Int) := ⟨_, rfl⟩
              have HHb := Lib.hid hhb
              clear hhb
              cases hb0 with
              | true =>
                have hg0 : (g k).length = 0 := by rw [HGg.out]; exact M.step_has HHb.out.symm
                have HKn : Hid (M.pick g (L' - (i + 1)) (i + 1) = M.pick g (L' - (k + 1)) (k + 1)) := HK.out.trans (M.pick_no hk hg0)
                clear hg0
                go_wp2_with (go_at_call 92; refine (sHas _ _ _ p _ _ (by exact HIr.out)).mono ?_; rintro e w' ⟨rfl, rfl⟩; rw [← HHb.out])
                go_roundw
                case rel => exact ⟨k + 1, by omega, by omega, by go_num, HKn, HB1.out⟩
                case measure => simp [intOf]; omega
              | false =>
                obtain ⟨t, ht⟩ : ∃ t, t = M.grow (M.ent R) L' over f (p ++ [(k : Int)]) (wt + y) := ⟨_, rfl⟩
                have HTt := Lib.hid ht
                have HGk : Hid (g k = t) := by show _ = _; rw [HGg.out, M.step_go (by rw [HVj.out, ← HYe.out]; exact hyb) HHb.out.symm, HVj.out, ← HYe.out]; exact ht.symm
                have HN2 := Lib.hid (M.nodesB_snoc HNd.out hk)
                have HD2 := Lib.hid (M.diffB_snoc HDf.out HHb.out.symm)
                have HIq : Hid (Ints .i64 wr.drew (some ⟨pb, po, none⟩) (N + 1) p) := HIr.out.below (Below.refl _ _).drew
                have hwy : IntKind.i64.wrap (wt + y) = wt + y := IntWalk.i64_in _ (by omega)
                have hA := cell_lt ck
                have hBb := cell_lt cy
                clear ht
                go_wp2_with (go_at_call 92; refine (sHas _ _ _ p _ _ (by exact HIr.out)).mono ?_; rintro e w' ⟨rfl, rfl⟩; rw [← HHb.out])
                go_region_held3 (fun w' => w'.cell? ⟨ab, ao + k, none⟩ = some (.slice (some ⟨rb', ro', none⟩) L' rc') ∧ w'.cell? ⟨rb', ro' + j, none⟩ = some (.int .i64 y) ∧ Below wr.heap.size wr w')
                  (first
                    | exact ⟨ck, cy, (Below.refl _ _).drew⟩
                    | exact keepg ‹_ ∧ _ ∧ Below _ _ _› hA hBb HBa.out
                    | exact keepg ‹_ ∧ _ ∧ Below _ _ _› hA hBb (HBo.out.mono (belowg ‹_ ∧ _ ∧ Below _ _ _›).size)
                    | exact keepg ‹_ ∧ _ ∧ Below _ _ _› hA hBb (HBc.out.mono (belowg ‹_ ∧ _ ∧ Below _ _ _›).size)
                    | exact keepg ‹_ ∧ _ ∧ Below _ _ _› hA hBb ((b_alloc _ _).mono (belowg ‹_ ∧ _ ∧ Below _ _ _›).size))
                  (first
                    | (go_at_call 100; refine (sOwn _ _ _ p _ ?hh ?h1 ?h2).mono ?_; (case hh => (first | exact HIq.out | exact HIq.out.below (b_alloc _ _))); (case h1 => omega); (case h2 => omega); rintro e w1 ⟨b1, c1, rfl, ho, hb⟩; have HO1 := Lib.hid ho; have HBo := Lib.hid hb; clear ho hb)
                    | (go_at_call 166; refine (HIH.out _ (N + 1 + 1) _ _ (wt + y) wr.heap.size _ ?hs HO2.out HN2.out HD2.out (by omega) (by omega) (by omega) (by omega) ?hz).mono ?_; (case hs => exact HS.out.below (HB1.out.trans ((belowg ‹_ ∧ _ ∧ Below _ _ _›).mono hz1))); (case hz => exact (belowg ‹_ ∧ _ ∧ Below _ _ _›).size); rintro e w3 ⟨b3, n3, c3, rfl, ho, hb⟩; have HO3 := Lib.hid ho; have HBc := Lib.hid hb; clear ho hb)
                    | (refine step_append1 _ rfl _ _ rfl wr.heap.size _ p (k : Int) _ (N + 1) HPl.out rfl ?ho rfl ?hy ?hl ?hb ?_; (case ho => (first | exact HO1.out.mono (Nat.le_refl _) | exact HO1.out.mono (by simp) | exact (HO1.out.below (b_alloc _ _)).mono (Nat.le_refl _))); (case hy => (first | (simp; done) | exact new_kept (wd := wr.drew) HBo.out)); (case hl => omega); (case hb => exact (belowg ‹_ ∧ _ ∧ Below _ _ _›).size); intro b2 c2 w2 ho hb; have HO2 := Lib.hid ho; have HBa := Lib.hid hb; clear ho hb))
                all_goals
                  have hbz : Below wr.heap.size wr w3 := by
                    first
                      | exact belowg ‹_ ∧ _ ∧ Below _ _ _›
                      | exact (belowg ‹_ ∧ _ ∧ Below wr.heap.size wr w2›).trans (HBc.out.mono (belowg ‹_ ∧ _ ∧ Below wr.heap.size wr w2›).size)
                  have HBz := Lib.hid (HB1.out.trans (hbz.mono hz1))
                  rw [← HTt.out] at HO3
                  have hlt := HO3.out.len
                  clear hbz
                  by_cases hn3 : n3 = 0
                  · subst hn3
                    have HKn : Hid (M.pick g (L' - (i + 1)) (i + 1) = M.pick g (L' - (k + 1)) (k + 1)) := HK.out.trans (M.pick_no hk (by rw [HGk.out]; exact hlt.symm))
                    clear hlt
                    go_wp2
                    go_roundw
                    case rel => exact ⟨k + 1, by omega, by omega, by go_num, HKn, HBz.out⟩
                    case measure => simp [intOf]; omega
                  · have HE : Hid (M.grow (M.ent R) L' over (f + 1) p wt = t) := HG.out.trans (HK.out.trans ((M.pick_yes hk (by rw [HGk.out]; omega)).trans HGk.out))
                    have hn3p : 0 < n3 := by omega
                    clear hlt
                    go_wp2
                    go_ret
                    exact ⟨_, _, _, rfl, by rw [HE.out]; exact HO3.out.mono (Nat.le_trans hB hz1), HBz.out⟩
          · obtain rfl : k = L := by omega
            have HE : Hid (M.grow (M.ent R) k over (f + 1) p wt = []) := HG.out.trans (HK.out.trans M.pick_end)
            go_wp2
            go_ret
            exact ⟨_, _, _, rfl, by rw [HE.out]; exact own_nil _ _, HB1.out⟩
end Go.Proofs.YtmhpgnndjagogaaGreat.V

namespace Go.Proofs.YtmhpgnndjagogaaGreat
namespace V
open Go.RowKit
theorem rlit (w : World) (B : Nat) (x : Int) (h : B ≤ w.heap.size) : Own (w.alloc (.cells #[.int .i64 x] 2)) B (.slice (some ⟨w.heap.size, 0, none⟩) 1 1) [x] := World.ownsRow_lit w #[.int .i64 x] 1 h (by decide) rfl
set_option maxRecDepth 100000 in
set_option maxHeartbeats 1000000 in
theorem sOver (a : Option Addr) (n cap : Nat) (R : List (List Int)) (over : Int) (w : World) (h : Sq w a n R) :
    Calls Tryz.prog 113 #[.slice a n cap, .int .i64 over] w fun e w' => ∃ b' n' c', e = .returned (.slice b' n' c') ∧ Own w' w.heap.size (.slice b' n' c') (M.overL (M.ent R) n over) ∧ Below w.heap.size w w' := by
  have HS := Lib.hid h
  have hn10 := h.2.2.2.2
  obtain ⟨g, hg⟩ : ∃ g : Nat → List Int, g = fun v : Nat => M.grow (M.ent R) n over n [(v : Int)] 0 := ⟨_, rfl⟩
  have HG : Hid (M.overL (M.ent R) n over = M.pick g n 0) := by show _ = _; rw [hg]; rfl
  have HGg : Hid (∀ v : Nat, g v = M.grow (M.ent R) n over n [(v : Int)] 0) := fun v => by rw [hg]
  clear h hg
  go_enter Tryz.func113, Tryz.ntmps113
  go_wp2
  go_loopw [5, 6] (fun v _ wr => ∃ k : Nat, k ≤ n ∧ v = .int .i64 k ∧ Hid (M.pick g n 0 = M.pick g (n - k) k) ∧ Below w.heap.size w wr) (fun v _ _ => n - (intOf v).toNat)
  case atStart => exact ⟨0, Nat.zero_le _, rfl, rfl, Below.refl _ _⟩
  case round =>
    obtain ⟨k, hk2, rfl, HK, hb⟩ := hrel
    have HB1 := Lib.hid hb
    have hz1 : w.heap.size ≤ wr.heap.size := hb.size
    clear hb
    by_cases hk : k < n
    · have hki : (k : Int) < (n : Int) := by omega
      obtain ⟨t, ht⟩ : ∃ t, t = M.grow (M.ent R) n over n [(k : Int)] 0 := ⟨_, rfl⟩
      have HTt := Lib.hid ht
      have HGk : Hid (g k = t) := (HGg.out k).trans ht.symm
      have HN2 : Hid (M.nodesB n [(k : Int)] = true) := by show _ = _; unfold M.nodesB; simp [M.inN]; omega
      have HD2 : Hid (M.diffB [(k : Int)] = true) := M.diffB_of (fun i hi => by
        simp at hi; subst hi; rfl)
      have HLit := Lib.hid (rlit wr w.heap.size (k : Int) hz1)
      have HSl := Lib.hid (HS.out.below (HB1.out.alloc hz1 (.cells #[.int .i64 (k : Int)] 2)))
      clear ht
      go_wp2_with fail
      refine (sGrow _ _ _ R over n _ 1 _ [(k : Int)] 0 w.heap.size _ HSl.out HLit.out HN2.out HD2.out (by omega) (by omega) (by omega) (by omega) (by simp; omega)).mono ?_
      rintro e w3 ⟨b3, n3, c3, rfl, ho, hb⟩
      rw [← HTt.out] at ho
      have hlt := ho.len
      have HO3 := Lib.hid ho
      have HBz := Lib.hid ((HB1.out.alloc hz1 (.cells #[.int .i64 (k : Int)] 2)).trans (hb.mono (by simp; omega)))
      clear ho hb
      by_cases hn3 : n3 = 0
      · subst hn3
        have HKn : Hid (M.pick g n 0 = M.pick g (n - (k + 1)) (k + 1)) := HK.out.trans (M.pick_no hk (by rw [HGk.out]; exact hlt.symm))
        clear hlt
        go_wp2
        go_roundw
        case rel => exact ⟨k + 1, by omega, by go_num, HKn, HBz.out⟩
        case measure => simp [intOf]; omega
      · have HE : Hid (M.overL (M.ent R) n over = t) := HG.out.trans (HK.out.trans ((M.pick_yes hk (by rw [HGk.out]; omega)).trans HGk.out))
        have hn3p : 0 < n3 := by omega
        clear hlt
        go_wp2
        go_ret
        exact ⟨_, _, _, rfl, by rw [HE.out]; exact HO3.out, HBz.out⟩
    · obtain rfl : k = n := by omega
      have HE : Hid (M.overL (M.ent R) k over = []) := HG.out.trans (HK.out.trans M.pick_end)
      go_wp2
      go_ret
      exact ⟨_, _, _, rfl, by rw [HE.out]; exact own_nil _ _, HB1.out⟩
end V
end Go.Proofs.YtmhpgnndjagogaaGreat

namespace Go.Proofs.YtmhpgnndjagogaaGreat.V
open Go Go.RowKit Go.Shelf
attribute [local go_sem] Oper.semAt_some

theorem own_head {w : World} {B n c : Nat} {b : Option Addr} {p : List Int} (h : Own w B (.slice b n c) p) (hn : 0 < p.length) : ∃ g, b = some ⟨g, 0, none⟩ ∧ B ≤ g := by
  obtain ⟨a', c', hv, -, -, hg⟩ := own_form h
  injection hv with e1 e2 e3
  obtain ⟨g, h1, h2, -⟩ := hg hn
  exact ⟨g, by rw [e1]; exact h1, h2⟩

set_option maxRecDepth 100000 in
set_option maxHeartbeats 4000000 in
theorem smallestCycle (a : Option Addr) (n cap : Nat) (R : List (List Int)) (ov : Int) (w0 : World) (hq : Sq w0 a n R) :
    Calls Tryz.prog 52 #[.slice a n cap, .int .i64 (ov + 1)] w0 fun e w' => ∃ b n' c', e = .returned (.slice b n' c') ∧ Own w' w0.heap.size (.slice b n' c') (M.overL (M.ent R) n ov) ∧ Below w0.heap.size w0 w' := by
  obtain ⟨w, hwd⟩ : ∃ w, w = w0.alloc (.cells #[.int .i64 (ov + 1)] 2) := ⟨_, rfl⟩
  have HQ : Hid (Sq w a n R) := by rw [hwd]; exact hq.below (b_alloc _ _)
  have HW0 : Hid (Below w0.heap.size w0 w) := by rw [hwd]; exact b_alloc _ _
  have hLx : w.heap.size = w0.heap.size + 1 := by rw [hwd]; simp
  have HLC : Hid (w.cell? ⟨w0.heap.size, 0, none⟩ = some (.int .i64 (ov + 1))) := by show _ = _; rw [hwd]; simp
  have hn10 := HQ.out.2.2.2
  clear hq
  refine callsIn_wide.1 (callsIn_of_wp_marks (n := 3) Tryz.func52 rfl trivial (wpIn_wide.2 ?_) rfl)
  simp only [Tryz.ntmps52, List.size_toArray, List.length_cons, List.length_nil, Nat.reduceAdd, Nat.reduceSub, Array.replicate_succ, Array.replicate_zero, List.push_toArray, List.append_toArray, List.nil_append, List.cons_append]
  go_wp2
  rw [← hwd]
  clear hwd
  go_step3
  go_wp2
  obtain ⟨Lx, hLxd⟩ : ∃ Lx, Lx = w0.heap.size := ⟨_, rfl⟩
  rw [← hLxd] at hLx HLC ⊢
  clear hLxd
  obtain ⟨Bx, hBx'⟩ : ∃ Bx, Bx = Lx + 1 := ⟨_, rfl⟩
  have hBx : Bx = w.heap.size := by rw [hBx', hLx]
  have hlo : w.heap.size ≤ Bx := by omega
  obtain ⟨gg, hgg⟩ : ∃ gg : Nat → List Int, gg = fun (v : Nat) => M.grow (M.ent R) n ov n [(v : Int)] 0 := ⟨_, rfl⟩
  have HGG := Lib.hid hgg
  have hov : M.overL (M.ent R) n ov = M.pick gg (n - 0) 0 := by rw [hgg]; rfl
  have hcb : (w.alloc (.cells #[.slice none 0 0] 28)).cell? ⟨Bx, 0, none⟩ = some (.slice none 0 0) := by rw [hBx]; simp
  have hfb : (w.alloc (.cells #[.slice none 0 0] 28)).frozen? ⟨Bx, 0, none⟩ = false := by rw [hBx]; simp
  have hbb : Below w.heap.size w (w.alloc (.cells #[.slice none 0 0] 28)) := b_alloc _ _
  rw [← hBx']
  clear hgg hBx hBx'
  go_step3
  go_wp2
  refine wp_loop_ghost_k (fun m a' w' => ∃ (k : Nat) (Ds : List Nat) (u6 u7 u8 u12 u13 u14 u15 u16 u17 u18 u19 u20 u21 u22 u23 u24 u25 : Value), k ≤ n ∧ m = n - k ∧ a' = { tmps := #[.slice a n cap, .int .i64 (ov + 1), undef, .pointer (some ⟨Lx, 0, none⟩), .slice none 0 0, .pointer (some ⟨Bx, 0, none⟩), u6, u7, u8, .slice a n cap, .int .i64 n, .int .i64 k, u12, u13, u14, u15, u16, u17, u18, u19, u20, u21, u22, u23, u24, u25], defers := Ds.map mark } ∧ Marks w.heap.size Ds w' ∧ Below w.heap.size w w' ∧ w'.cell? ⟨Bx, 0, none⟩ = some (.slice none 0 0) ∧ w'.frozen? ⟨Bx, 0, none⟩ = false ∧ Hid (M.overL (M.ent R) n ov = M.pick gg (n - k) k)) n ⟨0, [], _, _, _, _, _, _, _, _, _, _, _, _, _, _, _, _, _, Nat.zero_le _, rfl, rfl, Marks.nil _ _, hbb, hcb, hfb, hov⟩ ?_
  clear hcb hfb hbb hov
  intro m a' w' hI J K hJ hK
  obtain ⟨k, Ds, u6, u7, u8, u12, u13, u14, u15, u16, u17, u18, u19, u20, u21, u22, u23, u24, u25, hk, rfl, rfl, hMk, hBl, hcb, hfb, HP⟩ := hI
  by_cases hlt : k < n
  · have hki : (k : Int) < (n : Int) := by omega
    have HJ := Lib.hid hJ
    have HK := Lib.hid hK
    have HMk := Lib.hid hMk
    have HBl := Lib.hid hBl
    clear hJ hK hMk hBl
    go_wp2_with (go_at_call 108; refine (cyclesFrom_ _ _ _ ⟨_, _, _, rfl⟩).mono ?_; rintro e2 w2 ⟨rfl, rfl⟩)
    obtain ⟨Ba, hBa⟩ : ∃ Ba, Ba = w'.heap.size := ⟨_, rfl⟩
    have hlt1 : Bx < w'.heap.size := cell_lt hcb
    obtain ⟨w2, hw2⟩ : ∃ w2, w2 = ((w'.alloc (.cells #[.slice a n cap] 24)).alloc (.cells #[.int .i64 k] 2)) := ⟨_, rfl⟩
    have hbw : Below w'.heap.size w' w2 := by rw [hw2]; exact ((Below.refl _ _).alloc (Nat.le_refl _) _).alloc (by simp) _
    have hsz2 : w2.heap.size = Ba + 2 := by rw [hw2, hBa]; simp
    have hca : w2.cell? ⟨Ba, 0, none⟩ = some (.slice a n cap) := by
      rw [hw2, hBa, World.cell?_alloc_old _ _ _ (by simp)]; simp
    have hcf : w2.cell? ⟨Ba + 1, 0, none⟩ = some (.int .i64 k) := by
      have h := World.alloc_heap_new (w'.alloc (.cells #[.slice a n cap] 24)) (.cells #[.int .i64 k] 2)
      rw [World.size_alloc] at h
      rw [hw2, hBa]
      simp only [World.cell?, h]
      rfl
    rw [← hw2, ← hBa]
    have hcb2 := (hbw.cell (p := ⟨Bx, 0, none⟩) hlt1).trans hcb
    have hfb2 := (hbw.frozen (p := ⟨Bx, 0, none⟩) hlt1).trans hfb
    have HM2 : Hid (Marks w.heap.size Ds w2) := HMk.out.keep (Bx := Bx) hcb (Nat.le_refl _) (fun q hq _ => hbw.block q hq)
    have HB2 : Hid (Below w.heap.size w w2) := HBl.out.trans (hbw.mono HBl.out.size)
    have HQ2 : Hid (Sq w2 a n R) := HQ.out.below HB2.out
    have hltB : Bx < w2.heap.size := by rw [hsz2, hBa]; omega
    have hz2 : w.heap.size ≤ w2.heap.size := HB2.out.size
    have hBa2 : Ba + 1 < w2.heap.size := by omega
    clear hw2 hbw hcb hfb hBa hlt1 hsz2
    refine (wpIn_wide (n := 3)).1 ?_
    refine rangeState (gf := 159) (lb := #[.pointer (some ⟨Ba, 0, none⟩), .pointer (some ⟨Ba + 1, 0, none⟩)]) rfl (enters_of Tryz.func159 (by kernel_rfl) rfl) (PreC ov (w2.heap.size + 2) (gg k)) ?hps (GoC ov)
      (fun id _ W A => id = 0 ∧ (∃ g L c, A.cell? ⟨Bx, 0, none⟩ = some (.slice (some ⟨g, 0, none⟩) L c) ∧ Own A W.heap.size (.slice (some ⟨g, 0, none⟩) L c) (gg k) ∧ (gg k).length ≠ 0) ∧ Below w.heap.size w A ∧ (w2.heap.size ≤ A.heap.size ∧ w2.heap.size + 2 ≤ W.heap.size) ∧ ∀ q, q < w2.heap.size → q ≠ Bx → A.heap[q]? = w2.heap[q]?)
      ((gg k).length = 0) ?hMove ?hiter (fun x => match x.toList with | [p, q] => { tmps := #[.slice a n cap, .int .i64 (ov + 1), undef, .pointer (some ⟨Lx, 0, none⟩), .slice none 0 0, .pointer (some ⟨Bx, 0, none⟩), .int .i64 k, p, q, .slice a n cap, .int .i64 n, .int .i64 k, .bool true, .int .i64 k, .slice a n cap, .int .i64 k, .func (.func 159) #[] #[.pointer (some ⟨Ba, 0, none⟩), .pointer (some ⟨Ba + 1, 0, none⟩)], p, q, u19, u20, u21, u22, u23, u24, u25], defers := [] } | _ => { tmps := #[], defers := [] }) ?hassign ?hbody ?hdone ?hstop
    case hps => rintro x W ⟨b, L, c, p, wt, rfl, -⟩; rfl
    case hMove =>
      rintro id x W A B q ⟨rfl, ⟨g, L, c, h1, h2, h3⟩, h4, ⟨h6, h7⟩, h5⟩ hch hq
      have hg : W.heap.size ≤ g ∧ g < A.heap.size := own_lt h2 rfl
      refine ⟨rfl, ⟨g, L, c, ?_, ownsRow_keep h2 (fun r hr => ?_), h3⟩, ?_, ⟨Nat.le_trans h6 hch.2.2.2.1, h7⟩, ?_⟩
      · rw [World.cell?_of_block (w := A) (w' := B) (a := ⟨Bx, 0, none⟩) (hch.2.2.2.2 Bx (cell_lt h1) (by omega))]; exact h1
      · have : g = r := by injection hr
        subst this
        exact hch.2.2.2.2 g hg.2 (by omega)
      · exact ⟨hch.1.trans h4.os, hch.2.1.trans h4.tape, hch.2.2.1.trans h4.output, Nat.le_trans h4.size hch.2.2.2.1, fun r hr => (hch.2.2.2.2 r (by have := h4.size; omega) (by omega)).trans (h4.block r hr)⟩
      · intro r hr hne'
        exact (hch.2.2.2.2 r (by omega) (by omega)).trans (h5 r hr hne')
    case hiter =>
      intro T W1 hb1 hs1 hY
      have hg : gg k = M.grow (M.ent R) n ov n [(k : Int)] 0 := by rw [HGG.out]
      rw [← hs1, hg] at hY
      rw [← hs1, hg]
      exact callsIn_wide.2 (cycles1 ov a n cap R k (w2.heap.size + 1) Ba (Ba + 1) T W1 (HQ2.out.below hb1) hlt ((hb1.cell (p := ⟨Ba, 0, none⟩) (by show Ba < _; omega)).trans hca) ((hb1.cell (p := ⟨Ba + 1, 0, none⟩) (by show Ba + 1 < _; omega)).trans hcf) hY)
    case hassign =>
      intro l x W m K' hp hK'
      obtain ⟨b, L, c, p, wt, rfl, -⟩ := hp
      gi_wp2
      exact hK'
    case hbody =>
      intro x W o m hp hbl hsz
      obtain ⟨b, L, c, p, wt, rfl, ho, hL1, hL2, hres⟩ := hp
      have hcb3 : (W.putObj (w2.heap.size + 1) o).cell? ⟨Bx, 0, none⟩ = some (.slice none 0 0) := by
        rw [World.cell?_of_block (w := W) (a := ⟨Bx, 0, none⟩) (World.putObj_heap_other (by show Bx ≠ _; omega)), hbl.cell (p := ⟨Bx, 0, none⟩) hltB]; exact hcb2
      have hfb3 : (W.putObj (w2.heap.size + 1) o).frozen? ⟨Bx, 0, none⟩ = false := by
        rw [World.frozen?_of_block (w := W) (a := ⟨Bx, 0, none⟩) (World.putObj_heap_other (by show Bx ≠ _; omega)), hbl.frozen (p := ⟨Bx, 0, none⟩) hltB]; exact hfb2
      have HO3 : Hid (Own (W.putObj (w2.heap.size + 1) o) (w2.heap.size + 2) (.slice b L c) p) := ho.keep (fun q h1 _ => World.putObj_heap_other (by omega))
      have HRES := Lib.hid hres
      have HLp : Hid (L = p.length) := ho.len
      have HBL := Lib.hid hbl
      have hl3 : (W.putObj (w2.heap.size + 1) o).cell? ⟨Lx, 0, none⟩ = some (.int .i64 (ov + 1)) := by
        rw [World.cell?_of_block (w := W) (a := ⟨Lx, 0, none⟩) (World.putObj_heap_other (by show Lx ≠ _; omega)), hbl.cell (p := ⟨Lx, 0, none⟩) (by show Lx < _; omega), HB2.out.cell (p := ⟨Lx, 0, none⟩) (by show Lx < _; omega)]; exact HLC.out
      clear ho hres hbl
      change Code.wpIn _ _ _ _ _ { tmps := #[.slice a n cap, .int .i64 (ov + 1), undef, .pointer (some ⟨Lx, 0, none⟩), .slice none 0 0, .pointer (some ⟨Bx, 0, none⟩), .int .i64 k, (.slice b L c), (.int .i64 wt), .slice a n cap, .int .i64 n, .int .i64 k, .bool true, .int .i64 k, .slice a n cap, .int .i64 k, .func (.func 159) #[] #[.pointer (some ⟨Ba, 0, none⟩), .pointer (some ⟨Ba + 1, 0, none⟩)], (.slice b L c), (.int .i64 wt), u19, u20, u21, u22, u23, u24, u25], defers := [] } _
      by_cases hw : ov < wt
      · have hwg : ov + 1 ≤ wt := by omega
        have hwz : W.heap.size = (W.putObj (w2.heap.size + 1) o).heap.size := by simp
        have hBW : Bx < W.heap.size := by omega
        have hp0 : 0 < p.length := by have := HLp.out; omega
        gi_wp2_with (refine ⟨trivial, fun h => by simp [Fence.wide] at h, ?_⟩; gi_at_call 109; refine (CallsIn.inRound _ (callsIn_wide.2 (clone _ _ _ p _ HO3.out.ints' (by omega) (by omega)))).mono ?_; rintro e3 w3 ⟨b3, c3, rfl, ho3, hb3⟩; obtain ⟨g3, rfl, hg3⟩ := own_head ho3 hp0; have hc3 := (hb3.cell (p := ⟨Bx, 0, none⟩) (by rw [← hwz]; exact hBW)).trans hcb3; have hf3 := (hb3.frozen (p := ⟨Bx, 0, none⟩) (by rw [← hwz]; exact hBW)).trans hfb3; have HO4 := Lib.hid ho3; have HB3 := Lib.hid hb3; clear ho3 hb3)
        have hs3 := HB3.out.size
        have hpk := HRES.out hw
        have hgk := own_lt HO4.out rfl
        rw [← hwz] at hg3 hs3
        have hset : ∀ q, q ≠ Bx → (w3.setCell ⟨Bx, 0, none⟩ (.slice (some ⟨g3, 0, none⟩) L c3)).heap[q]? = w3.heap[q]? := fun q hq => Below.heap_setCell w3 ⟨Bx, 0, none⟩ _ q hq
        have hszs : (w3.setCell ⟨Bx, 0, none⟩ (.slice (some ⟨g3, 0, none⟩) L c3)).heap.size = w3.heap.size := by simp
        have hq3 : ∀ q, q < W.heap.size → w3.heap[q]? = (W.putObj (w2.heap.size + 1) o).heap[q]? := fun q hq => HB3.out.block q (by rw [← hwz]; exact hq)
        refine ⟨(hset _ (by omega)).trans (hq3 _ (by omega)), (hset _ (by omega)).trans (hq3 _ (by omega)), by rw [hszs, ← hwz]; exact hs3, fun q hq1 hq2 => (hset _ (by omega)).trans (hq3 _ hq2), rfl, ⟨g3, L, c3, World.cell?_setCell_same' _ _ _ (by rw [hc3]; rfl), ?_, ?_⟩, ?_, ⟨by rw [hszs]; omega, hsz⟩, fun q hq1 hq2 => ?_⟩
        · rw [← hpk]
          have := HO4.out
          rw [← hwz] at this
          exact ownsRow_keep this (fun r hr => by
            have hgr : g3 = r := by injection hr
            subst hgr
            exact hset _ (by omega))
        · rw [← hpk, ← HLp.out]; omega
        · have hbW : Below w.heap.size w W := HB2.out.trans (HBL.out.mono hz2)
          refine ⟨HB3.out.os.trans hbW.os, HB3.out.tape.trans hbW.tape, HB3.out.output.trans hbW.output, by rw [hszs]; have := hbW.size; omega, fun q hq => ?_⟩
          have := hbW.size
          rw [hset _ (by omega), hq3 _ (by omega), World.putObj_heap_other (by omega)]
          exact hbW.block q hq
        · rw [hset _ hq2, hq3 _ (by omega), World.putObj_heap_other (by omega)]
          exact HBL.out.block q hq1
      · have hw' : wt ≤ ov := by omega
        have hwl : ¬ (ov + 1 ≤ wt) := by omega
        gi_wp2
        exact ⟨Below.refl _ _, _, _, rfl, hw'⟩
    case hdone =>
      intro W hF hb hsz hD
      have HPn : Hid (M.overL (M.ent R) n ov = M.pick gg (n - (k + 1)) (k + 1)) := HP.out.trans (M.pick_no hlt hF)
      have HMn : Hid (Marks w.heap.size (w2.heap.size :: Ds) W) := Marks.cons HM2.out (HM2.out.keep (Bx := Bx) hcb2 (Nat.le_refl _) (fun q hq _ => hb.block q hq)) (Nat.le_refl _) hz2 hD
      have HBn : Hid (Below w.heap.size w W) := HB2.out.trans (hb.mono hz2)
      have hcn := (hb.cell (p := ⟨Bx, 0, none⟩) hltB).trans hcb2
      have hfn := (hb.frozen (p := ⟨Bx, 0, none⟩) hltB).trans hfb2
      clear hF hb hD hca hcf hcb2 hfb2
      go_wp2
      exact HK.out _ _ (Handed.intro (n - (k + 1)) (by omega) (HJ.out _ _ _ ⟨k + 1, w2.heap.size :: Ds, .int .i64 k, u7, u8, .bool true, .int .i64 k, .slice a n cap, .int .i64 k, _, u17, u18, u19, u20, u21, u22, u23, .int .i64 ((k : Int) + 1), u25, by omega, rfl, rfl, HMn.out, HBn.out, hcn, hfn, HPn.out⟩))
    case hstop =>
      intro id x W2 W hp hb hst hD
      obtain ⟨rfl, ⟨g, L, c, h1, h2, h3⟩, h4, ⟨h6, h7⟩, h5⟩ := hst
      have HEq : Hid (M.overL (M.ent R) n ov = gg k) := HP.out.trans (M.pick_yes hlt h3)
      have HMn : Hid (Marks w.heap.size (w2.heap.size :: Ds) W) := Marks.cons HM2.out (HM2.out.keep (Bx := Bx) hcb2 (Nat.le_refl _) h5) (Nat.le_refl _) hz2 hD
      have HOn : Hid (Own W w.heap.size (.slice (some ⟨g, 0, none⟩) L c) (gg k)) := h2.mono (by omega)
      have HB4 := Lib.hid h4
      clear h2 h3 h4 h5 h6 h7 hb hp hD hca hcf hcb2 hfb2
      refine wpIn_wide.2 ?_
      go_wp2
      rw [Exit.noGoto_ret]
      exact leaves_marks (lo := w.heap.size) (fun W' => Own W' w.heap.size (.slice (some ⟨g, 0, none⟩) L c) (gg k) ∧ Below w.heap.size w W')
        (fun A D o hA hlo' hD' => ⟨ownsRow_keep hA.1 (fun r hr => World.putObj_heap_other (by
          have hgr : g = r := by injection hr
          subst hgr
          rintro rfl
          obtain ⟨-, ⟨hv, -⟩ | ⟨g', cap', cur, hv, -, hg', -⟩⟩ := hA.1
          · cases hv
          · injection hv with e1 e2 e3
            injection e1 with e1
            injection e1 with e1
            subst e1
            rw [hD'] at hg'
            cases hg')), ⟨hA.2.os, hA.2.tape, hA.2.output, by have := hA.2.size; simpa using this, fun r hr => (World.putObj_heap_other (by omega)).trans (hA.2.block r hr)⟩⟩)
        (fun A hA => ⟨_, results_tmp rfl _ _ _, ⟨some ⟨g, 0, none⟩, L, c, rfl, by rw [HEq.out]; exact hA.1.mono HW0.out.size, HW0.out.trans (hA.2.mono HW0.out.size)⟩⟩) (w2.heap.size :: Ds) W HMn.out ⟨HOn.out, HB4.out⟩
  · obtain rfl : k = n := by omega
    have HEq : Hid (M.overL (M.ent R) k ov = []) := HP.out.trans M.pick_end
    have HBl := Lib.hid hBl
    have HMk := Lib.hid hMk
    clear hBl hMk hfb
    go_wp2
    rw [Exit.noGoto_ret]
    exact leaves_marks (lo := w.heap.size) (fun W' => Below w.heap.size w W')
      (fun A D o hA hlo' hD' => ⟨hA.os, hA.tape, hA.output, by have := hA.size; simpa using this, fun r hr => (World.putObj_heap_other (by omega)).trans (hA.block r hr)⟩)
      (fun A hA => ⟨_, results_tmp rfl _ _ _, ⟨none, 0, 0, rfl, by rw [HEq.out]; exact own_nil _ _, HW0.out.trans (hA.mono HW0.out.size)⟩⟩) Ds w' HMk.out HBl.out

end Go.Proofs.YtmhpgnndjagogaaGreat.V
namespace Go.Proofs.YtmhpgnndjagogaaGreat.M
theorem pick_len {g : Nat → List Int} {m : Nat} (h : ∀ v, (g v).length ≤ m) : ∀ c k, (pick g c k).length ≤ m := by
  intro c
  induction c with
  | zero => intro k; exact Nat.zero_le _
  | succ c ih =>
    intro k
    show (if _ then _ else _ : List Int).length ≤ m
    split
    · exact ih _
    · exact h k
theorem posRes_len (R : List (List Int)) : (posRes R).1.length ≤ 11 := by
  unfold posRes
  split
  · next h =>
    obtain ⟨m1, m2, -⟩ := isMat_t (sqB_t h).1
    split
    · simp
    · have := pick_len (g := fun v => grow (ent R) R.length 0 R.length [(v : Int)] 0) (m := 11) (fun v => by
        have := grow_nodes (ent R) R.length 0 R.length [(v : Int)] 0
        simp at this; omega) R.length 0
      exact this
  · simp
end Go.Proofs.YtmhpgnndjagogaaGreat.M

namespace Go.Proofs.YtmhpgnndjagogaaGreat.V
open Go.RowKit

set_option maxRecDepth 100000 in
set_option maxHeartbeats 400000 in
theorem eqInts (a : Option Addr) (n cap : Nat) (l : List Int) (a' : Option Addr) (n' cap' : Nat) (l' : List Int) (w : World) (h : Ints .i64 w a n l) (h' : Ints .i64 w a' n' l') (heq : l = l') :
    Calls Tryz.prog 104 #[.slice a n cap, .slice a' n' cap'] w fun e w' => e = .returned (.bool true) ∧ ∃ q, w' = w.drewN q := by
  subst heq
  obtain ⟨hl, hm, hr⟩ := h
  obtain ⟨hl', hm', hr'⟩ := h'
  obtain rfl : n = n' := by omega
  unfold maxLen at hm
  clear hm'
  have HL := Lib.hid hl
  clear hl hl'
  go_enter Tryz.func104, Tryz.ntmps104
  go_wp2
  go_loopw [5] (fun i wr => ∃ k : Nat, k ≤ n ∧ i = .int .i64 k ∧ ∃ q, wr = w.drewN q) (fun i _ => n - (intOf i).toNat)
  case atStart => exact ⟨0, Nat.zero_le _, rfl, 0, rfl⟩
  case round =>
    obtain ⟨k, hk, rfl, q, rfl⟩ := hrel
    by_cases hlt : k < n
    · rcases hr with h0 | ⟨b, off, rfl, hbl, hc⟩
      · omega
      rcases hr' with h0 | ⟨b', off', rfl, hbl', hc'⟩
      · omega
      have hck := hc k hlt
      have hck' := hc' k hlt
      obtain ⟨x, hx⟩ : ∃ x, x = l.getD k 0 := ⟨_, rfl⟩
      rw [← hx] at hck hck'
      clear hc hx hc'
      have hki : (k : Int) < (n : Int) := by omega
      go_wp2
      go_quiet (fail)
      go_wp2
      go_roundw
      case rel => exact ⟨k + 1, by omega, by go_num, _, rfl⟩
      case measure => simp [intOf]; omega
    · have hkn : k = n := by omega
      subst hkn
      clear hr hr'
      go_wp2
      go_ret
      exact ⟨rfl, q, rfl⟩

set_option maxRecDepth 100000 in
set_option maxHeartbeats 400000 in
theorem copyInts (a : Option Addr) (n cap : Nat) (l : List Int) (w : World) (h : Ints .i64 w a n l) (hs : n ≤ 1048576) :
    Calls Tryz.prog 103 #[.slice a n cap] w fun e w' => e = .returned (.slice (some ⟨w.heap.size, 0, none⟩) n n) ∧ Own w' w.heap.size (.slice (some ⟨w.heap.size, 0, none⟩) n n) l ∧ Below w.heap.size w w' := by
  obtain ⟨hl, hm, hr⟩ := h
  have hm2 := hm
  unfold maxLen at hm
  have HL := Lib.hid hl
  clear hl
  have hmk := run_make_row' (P := Tryz.prog) 28 2 (.int .i64 0) 8 Tryz.underlying28 info64 rfl .i64 .i64 n (by omega) (by omega)
  go_enter Tryz.func103, Tryz.ntmps103
  go_wp2
  clear hmk
  go_loopw [4] (fun i wr => ∃ k : Nat, k ≤ n ∧ i = .int .i64 k ∧ Own wr w.heap.size (.slice (some ⟨w.heap.size, 0, none⟩) n n) ((List.range n).map fun j => if j < k then l.getD j 0 else 0) ∧ Below w.heap.size w wr) (fun i _ => n - (intOf i).toNat)
  case atStart => exact ⟨0, Nat.zero_le _, rfl, by simpa using own_made w _ n (Nat.le_refl _) hm2, b_alloc _ _⟩
  case round =>
    obtain ⟨k, hk, rfl, hrow, hb⟩ := hrel
    by_cases hlt : k < n
    · rcases hr with h0 | ⟨b, off, rfl, hbl, hc⟩
      · omega
      have hck := hc k hlt
      obtain ⟨x, hx⟩ : ∃ x, x = l.getD k 0 := ⟨_, rfl⟩
      rw [← hx] at hck
      have hck' : wr.cell? ⟨b, off + k, none⟩ = some (.int .i64 x) := by rw [hb.cell (p := ⟨b, off + k, none⟩) hbl]; exact hck
      have hst : ∃ v, wr.cell? ⟨w.heap.size, k, none⟩ = some v := ⟨_, hrow.cellAt k hlt⟩
      obtain ⟨v, hst⟩ := hst
      have hfz := hrow.frozenAt k
      have HR := Lib.hid hrow
      have HB := Lib.hid hb
      have HX := Lib.hid hx
      clear hc hx hck hrow hb
      go_wp2
      go_roundw
      case rel =>
        refine ⟨k + 1, by omega, by go_num, ?_, HB.out.setCell (Nat.le_refl _) _⟩
        have := Own.set HR.out k x
        rw [M.map_set] at this
        refine (congrArg (Own _ _ _) (List.map_congr_left fun j hj => ?_)).mp this
        by_cases e : j = k
        · subst e; rw [if_pos rfl, if_pos (by omega), HX.out]
        · rw [if_neg e]
          by_cases e2 : j < k
          · rw [if_pos e2, if_pos (by omega)]
          · rw [if_neg e2, if_neg (by omega)]
      case measure => simp [intOf]; omega
    · have hkn : k = n := by omega
      subst hkn
      have HR := Lib.hid hrow
      have HB := Lib.hid hb
      clear hr hrow hb
      go_wp2
      go_ret
      refine ⟨rfl, ?_, HB.out⟩
      refine (congrArg (Own _ _ _) ?_).mp HR.out
      have hl := HL.out
      apply List.ext_getElem
      · simp [hl]
      · intro i h1 h2
        simp [show i < k by omega, h2]

/-- What is left of a size. -/
def SzPost (n : Nat) (left : Int) (w : World) (e : Ending) (w' : World) : Prop := ∃ x : Int, e = .returned (.int .i64 x) ∧ (x < 0 ∨ (0 ≤ x ∧ x + n = left)) ∧ w = w'

set_option maxRecDepth 100000 in
set_option maxHeartbeats 400000 in
theorem szInts (a : Option Addr) (n cap : Nat) (left : Int) (w : World) (hm : n ≤ maxLen) (h1 : 0 ≤ left) (h2 : left ≤ 1048576) :
    Calls Tryz.prog 102 #[.slice a n cap, .int .i64 left] w (SzPost n left w) := by
  unfold maxLen at hm
  by_cases hlt : left < n
  · go_enter Tryz.func102, Tryz.ntmps102
    go_wp2
    go_ret
    exact ⟨_, rfl, .inl (by omega), rfl⟩
  · go_enter Tryz.func102, Tryz.ntmps102
    go_wp2
    go_ret
    exact ⟨_, rfl, .inr ⟨by omega, by omega⟩, rfl⟩

/-- What is left of a size: nothing, or all the sizes fit. -/
def SzMPost (n : Nat) (R : List (List Int)) (left : Int) (w : World) (e : Ending) (w' : World) : Prop := ∃ x : Int, e = .returned (.int .i64 x) ∧ (x < 0 ∨ (0 ≤ x ∧ x ≤ left ∧ (n : Int) ≤ left ∧ (M.pre R R.length : Int) ≤ left)) ∧ w = w'

set_option maxRecDepth 100000 in
set_option maxHeartbeats 400000 in
theorem szIntss (a : Option Addr) (n cap : Nat) (R : List (List Int)) (left : Int) (w : World) (h : Mat w a n R) (h1 : 0 ≤ left) (h2 : left ≤ 1048576) :
    Calls Tryz.prog 45 #[.slice a n cap, .int .i64 left] w (SzMPost n R left w) := by
  have HM := Lib.hid h
  obtain ⟨hl, hm, -⟩ := h
  unfold maxLen at hm
  have HL := Lib.hid hl
  clear hl
  by_cases hlt : left < n
  · go_enter Tryz.func45, Tryz.ntmps45
    go_wp2
    go_ret
    exact ⟨_, rfl, .inl (by omega), rfl⟩
  · go_enter Tryz.func45, Tryz.ntmps45
    go_wp2
    go_loop [1, 5] (fun x i => ∃ (k : Nat) (y : Int), k ≤ n ∧ i = .int .i64 k ∧ x = .int .i64 y ∧ 0 ≤ y ∧ (M.pre R k : Int) + n + y ≤ left) (fun _ i => n - (intOf i).toNat)
    case atStart => exact ⟨0, left - n, Nat.zero_le _, rfl, rfl, by omega, by rw [M.pre_zero]; omega⟩
    case round =>
      obtain ⟨k, y, hk, rfl, rfl, hy, hp⟩ := hrel
      by_cases hkn : k < n
      · obtain ⟨b, off, ra, rc, L, l, rfl, hbl, hll, hc, hI⟩ := HM.out.at k hkn
        have hps := M.pre_succ R k (by have := HL.out; omega)
        have hLl : L = l.length := hI.1.symm
        rw [← hll, ← hLl] at hps
        have HP := Lib.hid hps
        have hLm := hI.2.1
        clear hI hll hps hLl
        go_wp2_with fail
        refine (szInts _ _ _ _ _ hLm hy (by omega)).mono ?_
        rintro e w' ⟨z, rfl, hz, rfl⟩
        rcases hz with hz | ⟨hz1, hz2⟩
        · go_wp2
          go_ret
          exact ⟨_, rfl, .inl (by omega), rfl⟩
        · go_wp2
          go_round
          case rel => exact ⟨k + 1, z, by omega, by go_num, rfl, hz1, by rw [HP.out]; omega⟩
          case measure => simp [intOf]; omega
      · obtain rfl : k = n := by omega
        go_wp2
        go_ret
        exact ⟨_, rfl, .inr ⟨hy, by omega, by omega, by rw [HL.out]; omega⟩, rfl⟩

end Go.Proofs.YtmhpgnndjagogaaGreat.V

namespace Go.Proofs.YtmhpgnndjagogaaGreat.V
open Go.RowKit

/-- Only blocks of S may have changed, and no others were added. -/
structure Chg (S : Nat → Prop) (w w' : World) : Prop where
  os : w'.os = w.os
  tape : w'.tape = w.tape
  output : w'.output = w.output
  size : w'.heap.size = w.heap.size
  other : ∀ k, ¬ S k → w'.heap[k]? = w.heap[k]?

theorem Chg.refl (S : Nat → Prop) (w : World) : Chg S w w := ⟨rfl, rfl, rfl, rfl, fun _ _ => rfl⟩
theorem Chg.trans {S : Nat → Prop} {a b c : World} (h : Chg S a b) (k : Chg S b c) : Chg S a c :=
  ⟨k.os.trans h.os, k.tape.trans h.tape, k.output.trans h.output, k.size.trans h.size, fun i hi => (k.other i hi).trans (h.other i hi)⟩
theorem Chg.mono {S S' : Nat → Prop} {a b : World} (h : Chg S a b) (hs : ∀ k, S k → S' k) : Chg S' a b :=
  ⟨h.os, h.tape, h.output, h.size, fun k hk => h.other k (fun hh => hk (hs k hh))⟩
theorem Chg.below {S : Nat → Prop} {a b : World} {B : Nat} (h : Chg S a b) (hs : ∀ k, S k → B ≤ k) : Below B a b :=
  ⟨h.os, h.tape, h.output, Nat.le_of_eq h.size.symm, fun k hk => h.other k (fun hh => by have := hs k hh; omega)⟩
theorem Chg.set {S : Nat → Prop} {a b : World} (h : Chg S a b) {g i : Nat} (hg : S g) (v : Value) : Chg S a (b.setCell ⟨g, i, none⟩ v) :=
  ⟨h.os, h.tape, h.output, by have := h.size; simpa [World.setCell] using this, fun k hk => (Below.heap_setCell _ _ _ _ (by show k ≠ g; intro e; subst e; exact hk hg)).trans (h.other k hk)⟩
theorem Own.chg {S : Nat → Prop} {w w' : World} {B : Nat} {v : Value} {l : List Int} (h : Own w B v l) (hc : Chg S w w') (hs : ∀ k, v.ownBlock = some k → ¬ S k) : Own w' B v l :=
  ownsRow_keep h fun k hk => hc.other k (hs k hk)

/-- The blocks from lo up to hi are as they were. -/
def Same (lo hi : Nat) (w w' : World) : Prop := ∀ k, lo ≤ k → k < hi → w'.heap[k]? = w.heap[k]?
theorem Same.refl (lo hi : Nat) (w : World) : Same lo hi w w := fun _ _ _ => rfl
theorem Same.below {lo hi b : Nat} {a w w' : World} (h : Same lo hi a w) (hb : Below b w w') (hh : hi ≤ b) : Same lo hi a w' :=
  fun k h1 h2 => (hb.block k (by omega)).trans (h k h1 h2)
theorem Same.chg {S : Nat → Prop} {lo hi : Nat} {a w w' : World} (h : Same lo hi a w) (hc : Chg S w w') (hs : ∀ k, lo ≤ k → k < hi → ¬ S k) : Same lo hi a w' :=
  fun k h1 h2 => (hc.other k (hs k h1 h2)).trans (h k h1 h2)

/-- One row of an owned matrix is rewritten. -/
theorem OwnV.row {w w' : World} {B : Nat} {v : Value} {R : List (List Int)} {V : List Value} {l : List Int} (h : OwnV w B v R V) (i : Nat) (hi : i < R.length) (ho : Own w' B (V.getD i (.slice none 0 0)) l)
    (hc : Chg (fun k => (V.getD i (.slice none 0 0)).ownBlock = some k) w w') : OwnV w' B v (R.set i l) V := by
  obtain ⟨h1, h2, h3, h4, h5⟩ := h
  refine ⟨by simpa using h1, ?_, ?_, ?_, ?_⟩
  · rw [List.length_set]
    exact ownsRow_keep h2 fun k hk => hc.other k (fun e => h4 i hi k e hk)
  · intro j hj
    simp only [List.length_set] at hj
    rw [getD_set _ _ _ _ _ hi]
    by_cases e : j = i
    · subst e; rw [if_pos rfl]; exact ho
    · rw [if_neg e]
      exact (h3 j hj).chg hc (fun k hk e2 => h5 j i hj hi e k hk e2)
  · intro j hj
    simp only [List.length_set] at hj
    exact h4 j hj
  · intro j t hj ht
    simp only [List.length_set] at hj ht
    exact h5 j t hj ht

set_option maxRecDepth 100000 in
set_option maxHeartbeats 400000 in
theorem markInts (a : Option Addr) (n cap B : Nat) (l : List Int) (m : Int) (w : World) (h : Own w B (.slice a n cap) l) (hn : n ≤ 1048576) (h1 : 0 ≤ m) (h2 : m ≤ 40000000) :
    Calls Tryz.prog 105 #[.slice a n cap, .int .i64 m] w fun e w' => e = .returned (.int .i64 (m + n)) ∧ Own w' B (.slice a n cap) (M.iota m n) ∧ Chg (fun k => (Value.slice a n cap).ownBlock = some k) w w' := by
  have HO := Lib.hid h
  have HL := Lib.hid h.len
  have hgg := own_form h
  obtain ⟨a', c', hv, -, -, hg⟩ := hgg
  injection hv with e1 e2 e3
  subst e1 e3
  rw [← e2] at hg
  clear h e2
  go_enter Tryz.func105, Tryz.ntmps105
  go_wp2
  go_loopw [1, 5] (fun x i wr => ∃ k : Nat, k ≤ n ∧ i = .int .i64 k ∧ x = .int .i64 (m + k) ∧ Own wr B (.slice a n cap) ((List.range n).map fun j => if j < k then m + (j : Int) else l.getD j 0) ∧ Chg (fun k => (Value.slice a n cap).ownBlock = some k) w wr) (fun _ i _ => n - (intOf i).toNat)
  case atStart =>
    refine ⟨0, Nat.zero_le _, rfl, by simp, ?_, Chg.refl _ _⟩
    refine (congrArg (Own _ _ _) ?_).mp HO.out
    have hl := HL.out
    apply List.ext_getElem
    · simp [hl]
    · intro i h1 h2
      simp [h1]
  case round =>
    obtain ⟨k, hk, rfl, rfl, hrow, hb⟩ := hrel
    by_cases hlt : k < n
    · obtain ⟨g, rfl, hBg, hgl⟩ := hg (by omega)
      have hst : ∃ v, wr.cell? ⟨g, k, none⟩ = some v := ⟨_, hrow.cellAt k hlt⟩
      obtain ⟨v, hst⟩ := hst
      have hfz := hrow.frozenAt k
      have HR := Lib.hid hrow
      have HB := Lib.hid hb
      clear hrow hb hg
      have hb1 : 0 ≤ m + (k : Int) := by omega
      have hb2 : m + (k : Int) ≤ 50000000 := by omega
      go_wp2
      go_roundw
      case rel =>
        refine ⟨k + 1, by omega, by go_num, vi (by omega), ?_, HB.out.set rfl _⟩
        have := Own.set HR.out k (m + k)
        rw [M.map_set] at this
        refine (congrArg (Own _ _ _) (List.map_congr_left fun j hj => ?_)).mp this
        by_cases e : j = k
        · subst e; rw [if_pos rfl, if_pos (by omega)]
        · rw [if_neg e]
          by_cases e2 : j < k
          · rw [if_pos e2, if_pos (by omega)]
          · rw [if_neg e2, if_neg (by omega)]
      case measure => simp [intOf]; omega
    · have hkn : k = n := by omega
      subst hkn
      have HR := Lib.hid hrow
      have HB := Lib.hid hb
      clear hrow hb hg
      go_wp2
      go_ret
      refine ⟨rfl, (congrArg (Own _ _ _) ?_).mp HR.out, HB.out⟩
      unfold M.iota
      exact List.map_congr_left fun j hj => by rw [if_pos (List.mem_range.1 hj)]

set_option maxRecDepth 100000 in
set_option maxHeartbeats 400000 in
theorem heldInts (a : Option Addr) (n cap : Nat) (m : Int) (w : World) (h : Ints .i64 w a n (M.iota m n)) (hn : n ≤ 1048576) (h1 : 0 ≤ m) (h2 : m ≤ 40000000) :
    Calls Tryz.prog 106 #[.slice a n cap, .int .i64 m] w fun e w' => e = .returned (.int .i64 (m + n)) ∧ w = w' := by
  have HI := Lib.hid h
  clear h
  go_enter Tryz.func106, Tryz.ntmps106
  go_wp2
  go_loop [1, 5] (fun x i => ∃ k : Nat, k ≤ n ∧ i = .int .i64 k ∧ x = .int .i64 (m + k)) (fun _ i => n - (intOf i).toNat)
  case atStart => exact ⟨0, Nat.zero_le _, rfl, by simp⟩
  case round =>
    obtain ⟨k, hk, rfl, rfl⟩ := hrel
    by_cases hlt : k < n
    · obtain ⟨b, off, x, rfl, hbl, hx, hc⟩ := HI.out.at k hlt
      rw [M.iota_getD m n k hlt] at hx
      subst hx
      have hb1 : 0 ≤ m + (k : Int) := by omega
      have hb2 : m + (k : Int) ≤ 50000000 := by omega
      go_wp2
      go_round
      case rel => exact ⟨k + 1, by omega, by go_num, vi (by omega)⟩
      case measure => simp [intOf]; omega
    · have hkn : k = n := by omega
      subst hkn
      go_wp2
      go_ret
      exact ⟨rfl, rfl⟩

set_option maxRecDepth 100000 in
set_option maxHeartbeats 400000 in
theorem markIntss (a : Option Addr) (n cap B : Nat) (R : List (List Int)) (m : Int) (w0 w : World) (h0 : OwnM w0 B (.slice a n cap) R) (hb0 : Same B w0.heap.size w0 w) (hn : n ≤ 1048576) (hp : M.pre R R.length ≤ 1048576) (h1 : 0 ≤ m) (h2 : m + M.pre R R.length ≤ 40000000) :
    Calls Tryz.prog 48 #[.slice a n cap, .int .i64 m] w fun e w' => e = .returned (.int .i64 (m + M.pre R R.length)) ∧ OwnM w' B (.slice a n cap) (M.marks m R) ∧ Chg (fun k => B ≤ k ∧ k < w0.heap.size) w w' := by
  obtain ⟨V, hV0⟩ := h0
  have hV : OwnV w B (.slice a n cap) R V := by
    obtain ⟨h1, h2, h3, h4, h5⟩ := hV0
    exact ⟨h1, ownsRow_keep h2 (fun k hv => hb0 k (own_lt h2 hv).1 (own_lt h2 hv).2), fun i hi => (h3 i hi).keep hb0, h4, h5⟩
  have hlt : ∀ i, i < n → ∀ k, (V.getD i (.slice none 0 0)).ownBlock = some k → B ≤ k ∧ k < w0.heap.size := by
    obtain ⟨e1, e2, e3, e4, e5⟩ := hV0
    have hl := OwnM.len ⟨V, e1, e2, e3, e4, e5⟩
    exact fun i hi k hk => own_lt (e3 i (by omega)) hk
  have HT := Lib.hid hlt
  have HL := Lib.hid (OwnM.len ⟨V, hV⟩)
  have hgg := own_form hV.2.1
  obtain ⟨a', c', hv, -, -, hg⟩ := hgg
  injection hv with e1 e2 e3
  subst e1 e3
  rw [← e2] at hg
  have HV := Lib.hid hV
  clear hV hlt hV0 e2 hb0
  go_enter Tryz.func48, Tryz.ntmps48
  go_wp2
  go_loopw [1, 5] (fun x i wr => ∃ (k : Nat) (y : Int), k ≤ n ∧ i = .int .i64 k ∧ x = .int .i64 y ∧ y = m + M.pre R k ∧ OwnV wr B (.slice a n cap) (M.marked m R k) V ∧ Chg (fun k => B ≤ k ∧ k < w0.heap.size) w wr) (fun _ i _ => n - (intOf i).toNat)
  case atStart => exact ⟨0, m, Nat.zero_le _, rfl, rfl, by rw [M.pre_zero]; omega, by rw [M.marked_zero]; exact HV.out, Chg.refl _ _⟩
  case round =>
    obtain ⟨k, y, hk, rfl, rfl, hy, hO, hb⟩ := hrel
    have HO := Lib.hid hO
    have HB := Lib.hid hb
    by_cases hlt : k < n
    · have hkR : k < R.length := by have := HL.out; omega
      have hps := M.pre_succ R k hkR
      have hpm := M.pre_mono R (show k + 1 ≤ R.length by omega)
      have hle := M.len_le_pre R k hkR
      obtain ⟨g, rfl, hBg, hgl⟩ := hg (by omega)
      have hrow := HO.out.2.2.1 k (by simpa using hkR)
      obtain ⟨ra, rc, hrv, hrc, hrm, hrg⟩ := own_form hrow
      have hcell : wr.cell? ⟨g, k, none⟩ = some (V.getD k (.slice none 0 0)) := by
        have e : n = (M.marked m R k).length := by have := HL.out; simpa using this
        have h2 := HO.out.2.1
        rw [← e] at h2
        rw [World.ownsRow.cellAt h2 k (by omega)]
        have := HO.out.1
        simp [show k < V.length by omega]
      rw [M.marked_rowlen m R k k hkR] at hrv hrc
      rw [hrv] at hcell hrow
      rw [M.marked_at m R k k hkR, if_neg (Nat.lt_irrefl _)] at hrow
      have y1 : 0 ≤ y := by omega
      have y2 : y ≤ 40000000 := by omega
      generalize hLn : (R.getD k []).length = L at *
      have hLs : L ≤ 1048576 := by omega
      have HY := Lib.hid hy
      have HP := Lib.hid hps
      have HRV := Lib.hid hrv
      have HRW := Lib.hid hrow
      have HLn := Lib.hid hLn
      have HTk := Lib.hid (HT.out k hlt)
      clear hO hb hg hps hpm hle hrow hrv hrg hrc hy hLn
      go_wp2_with fail
      refine (markInts _ _ _ B _ _ _ HRW.out hLs y1 y2).mono ?_
      rintro e w1 ⟨rfl, ho1, hc1⟩
      have hN : OwnV w1 B (.slice (some ⟨g, 0, none⟩) n cap) (M.marked m R (k + 1)) V := by
        have := HO.out.row k (by simpa using hkR) (l := M.iota y L) (by rw [HRV.out]; exact ho1) (by rw [HRV.out]; exact hc1)
        rw [HY.out, ← HLn.out, M.marked_set m R k hkR] at this
        exact this
      have HN := Lib.hid hN
      have HB1 := Lib.hid (HB.out.trans (hc1.mono (fun j hj => HTk.out j (by rw [HRV.out]; exact hj))))
      clear ho1 hc1 hN
      go_wp2
      go_roundw
      case rel => exact ⟨k + 1, y + L, by omega, by go_num, rfl, by rw [HY.out, HP.out]; omega, HN.out, HB1.out⟩
      case measure => simp [intOf]; omega
    · have hkn : k = n := by omega
      subst hkn
      have HY := Lib.hid hy
      clear hO hb hg hy
      go_wp2
      go_ret
      have e := HL.out
      refine ⟨by rw [HY.out, ← e]; rfl, ⟨V, ?_⟩, HB.out⟩
      unfold M.marks
      rw [← e]
      exact HO.out

set_option maxRecDepth 100000 in
set_option maxHeartbeats 400000 in
theorem heldIntss (a : Option Addr) (n cap : Nat) (R : List (List Int)) (m : Int) (w : World) (h : Mat w a n (M.marks m R)) (hp : M.pre R R.length ≤ 1048576) (h1 : 0 ≤ m) (h2 : m + M.pre R R.length ≤ 40000000) :
    Calls Tryz.prog 49 #[.slice a n cap, .int .i64 m] w fun e w' => e = .returned (.int .i64 (m + M.pre R R.length)) ∧ w = w' := by
  have HL : Hid (n = R.length) := by have := h.1; unfold M.marks at this; show _ = _; simpa using this.symm
  have hm := h.2.1
  have HI := Lib.hid h
  clear h
  unfold maxLen at hm
  go_enter Tryz.func49, Tryz.ntmps49
  go_wp2
  go_loop [1, 5] (fun x i => ∃ (k : Nat) (y : Int), k ≤ n ∧ i = .int .i64 k ∧ x = .int .i64 y ∧ y = m + M.pre R k) (fun _ i => n - (intOf i).toNat)
  case atStart => exact ⟨0, m, Nat.zero_le _, rfl, rfl, by rw [M.pre_zero]; omega⟩
  case round =>
    obtain ⟨k, y, hk, rfl, rfl, hy⟩ := hrel
    by_cases hlt : k < n
    · have hkR : k < R.length := by have := HL.out; omega
      have hps := M.pre_succ R k hkR
      have hpm := M.pre_mono R (show k + 1 ≤ R.length by omega)
      have hle := M.len_le_pre R k hkR
      obtain ⟨b, off, ra, rc, L, l, rfl, hbl, hll, hc, hI⟩ := HI.out.at k hlt
      unfold M.marks at hll
      rw [M.marked_at m R _ k hkR, if_pos hkR] at hll
      have hLe : L = (R.getD k []).length := by have := hI.1; rw [hll] at this; simpa using this.symm
      rw [← hLe] at hps hle hll
      rw [hll, ← hy] at hI
      have y1 : 0 ≤ y := by omega
      have y2 : y ≤ 40000000 := by omega
      have hLs : L ≤ 1048576 := by omega
      have HY := Lib.hid hy
      have HP := Lib.hid hps
      have HII := Lib.hid hI
      have hyL : 0 ≤ y + (L : Int) := by omega
      clear hI hll hps hpm hle hLe hy
      go_wp2_with fail
      refine (heldInts _ _ _ _ _ HII.out hLs y1 y2).mono ?_
      rintro e w' ⟨rfl, rfl⟩
      go_wp2
      go_round
      case rel => exact ⟨k + 1, y + L, by omega, by go_num, rfl, by rw [HY.out, HP.out]; omega⟩
      case measure => simp [intOf]; omega
    · have hkn : k = n := by omega
      subst hkn
      have HY := Lib.hid hy
      clear hy
      go_wp2
      go_ret
      have e := HL.out
      exact ⟨by rw [HY.out, ← e]; rfl, rfl⟩

/-- The same, said for the exact laws: the number is named, and what changed lies in the blocks of the marked slice. -/
theorem markM (a : Option Addr) (n cap B : Nat) (R : List (List Int)) (m : Int) (w0 w : World) (h0 : OwnM w0 B (.slice a n cap) R) (hb0 : Same B w0.heap.size w0 w) (hn : n ≤ 1048576) (hp : M.pre R R.length ≤ 1048576) (h1 : 0 ≤ m) (h2 : m + M.pre R R.length ≤ 40000000) :
    Calls Tryz.prog 48 #[.slice a n cap, .int .i64 m] w fun e w' => ∃ y : Int, e = .returned (.int .i64 y) ∧ 0 ≤ y ∧ Hid (y = m + M.pre R R.length) ∧ OwnM w' B (.slice a n cap) (M.marks m R) ∧ Chg (fun k => B ≤ k ∧ k < w0.heap.size) w w' := by
  refine (markIntss _ _ _ _ _ _ _ _ h0 hb0 hn hp h1 h2).mono ?_
  rintro e w' ⟨rfl, ho, hc⟩
  exact ⟨_, rfl, by omega, rfl, ho, hc⟩
theorem heldM (a : Option Addr) (n cap : Nat) (R : List (List Int)) (m y : Int) (w : World) (h : Mat w a n (M.marks m R)) (hp : M.pre R R.length ≤ 1048576) (h1 : 0 ≤ m) (h2 : m + M.pre R R.length ≤ 40000000) (hy : y = m + M.pre R R.length) :
    Calls Tryz.prog 49 #[.slice a n cap, .int .i64 m] w fun e w' => e = .returned (.int .i64 y) ∧ w = w' := by
  subst hy
  exact heldIntss _ _ _ _ _ _ h hp h1 h2
theorem markV (a : Option Addr) (n cap B : Nat) (l : List Int) (m : Int) (w0 w : World) (h0 : Own w0 B (.slice a n cap) l) (hb0 : Same B w0.heap.size w0 w) (hn : n ≤ 1048576) (h1 : 0 ≤ m) (h2 : m ≤ 40000000) :
    Calls Tryz.prog 105 #[.slice a n cap, .int .i64 m] w fun e w' => ∃ y : Int, e = .returned (.int .i64 y) ∧ 0 ≤ y ∧ Hid (y = m + n) ∧ Own w' B (.slice a n cap) (M.iota m n) ∧ Chg (fun k => B ≤ k ∧ k < w0.heap.size) w w' := by
  refine (markInts _ _ _ B l _ _ (h0.keep hb0) hn h1 h2).mono ?_
  rintro e w' ⟨rfl, ho, hc⟩
  exact ⟨_, rfl, by omega, rfl, ho, hc.mono (fun k hk => own_lt h0 hk)⟩
theorem heldV (a : Option Addr) (n cap : Nat) (m y : Int) (w : World) (h : Ints .i64 w a n (M.iota m n)) (hn : n ≤ 1048576) (h1 : 0 ≤ m) (h2 : m ≤ 40000000) (hy : y = m + n) :
    Calls Tryz.prog 106 #[.slice a n cap, .int .i64 m] w fun e w' => e = .returned (.int .i64 y) ∧ w = w' := by
  subst hy
  exact heldInts _ _ _ _ _ h hn h1 h2
end Go.Proofs.YtmhpgnndjagogaaGreat.V
