/- Texts laid together: Gr1, Trans. -/
import Derived.Test.YtkilnneepnbckaaQd1
import Derived.Test.YtkilnneepnbckaaQd7
import Derived.Test.YtkilnneepnbckaaRows
import Derived.Test.YtkilnneepnbckaaQd2
import Derived.WalkKit
import Derived.ProofKit
import Derived.WalkSmall
import Derived.Deep.QuietTactic
import Derived.BigQuiet
import Derived.BigRegion
import Derived.Deep.Draws
import Derived.Lib.Hide
import Derived.OpenShut
import Derived.Deep.OwnRows
import Derived.Test.YtkilnneepnbckaaQd3
import Derived.Test.YtkilnneepnbckaaQd4
import Derived.StillTailTactics
set_option linter.unusedSimpArgs false
set_option linter.unusedVariables false
set_option linter.unusedSectionVars false
namespace Go.Proofs.Ytkilnneepnbckaa.V
open Go.RowKit

theorem keepg {w0 w w' : World} {B : Nat} {p q : Addr} {x y : Value} (h : w.cell? p = some x ∧ w.cell? q = some y ∧ Below B w0 w) (hp : p.block < B) (hq : q.block < B) (hb : Below B w w') : w'.cell? p = some x ∧ w'.cell? q = some y ∧ Below B w0 w' :=
  ⟨(hb.cell hp).trans h.1, (hb.cell hq).trans h.2.1, h.2.2.trans hb⟩
theorem belowg {w0 w : World} {B : Nat} {P Q : Prop} (h : P ∧ Q ∧ Below B w0 w) : Below B w0 w := h.2.2
set_option maxRecDepth 100000 in
set_option maxHeartbeats 4000000 in
theorem sGrow (a : Option Addr) (n cap : Nat) (R : List (List Int)) (over : Int) (f : Nat) : ∀ (b : Option Addr) (N c : Nat) (p : List Int) (wt : Int) (B : Nat) (w : World), Sq w a n R → Own w B (.slice b N c) p → M.nodesB n p = true → M.diffB p = true → 1 ≤ N → n + 1 ≤ f + N → -1000001000000 * (N : Int) ≤ wt → wt ≤ 1000001000000 * (N : Int) → B ≤ w.heap.size →
    Calls Try.prog 106 #[.slice a n cap, .slice b N c, .int .i64 wt, .int .i64 over] w fun e w' => ∃ b' n' c', e = .returned (.slice b' n' c') ∧ Own w' B (.slice b' n' c') (M.grow (M.ent R) n over f p wt) ∧ Below w.heap.size w w' := by
  induction f with
  | zero =>
    intro b N c p wt B w hS hO hn hd h1 hf hw1 hw2 hB
    have := M.diffB_len hn hd
    have := hO.len
    omega
  | succ f IH =>
    intro b N c p wt B w hS hO hn hd h1 hf hw1 hw2 hB
    obtain ⟨N, rfl⟩ : ∃ m, N = m + 1 := ⟨N - 1, by omega⟩
    have HIH := Lib.hid IH
    have hpl : p.length = N + 1 := hO.len.symm
    have hle := M.diffB_len hn hd
    have hn10 := hS.2.2.2.2
    have h0 := M.nodesB_at hn (k := 0) (by omega)
    have hN := M.nodesB_at hn (k := N) (by omega)
    obtain ⟨pb, po, x0, rfl, -, hx0, c0⟩ := hO.ints'.at 0 (by omega)
    obtain ⟨pb2, po2, x1, hpe, -, hx1, c1⟩ := hO.ints'.at N (by omega)
    injection hpe with hpe
    injection hpe with e1 e2 e3
    subst e1 e2
    rw [← hx0] at h0
    rw [← hx1] at hN
    obtain ⟨i, rfl⟩ := Int.eq_ofNat_of_zero_le h0.1
    obtain ⟨j, rfl⟩ := Int.eq_ofNat_of_zero_le hN.1
    have hi : i < n := by omega
    have hj : j < n := by omega
    have hvi : M.vx p 0 = i := by unfold M.vx; rw [← hx0]; simp
    have hvj : M.lastV p = j := by unfold M.lastV M.vx; rw [hpl, Nat.add_sub_cancel, ← hx1]; simp
    obtain ⟨ab, ao, ra, rc, L, lr, rfl, -, hlr, cr, hIr⟩ := hS.1.at i hi
    have hL : L = n := by rw [← hIr.1, hlr]; exact hS.2.1.2 i hi
    subst hL
    obtain ⟨rb, ro, z, rfl, -, hz, cz⟩ := hIr.at j hj
    have hze : z = M.ent R i j := by rw [hz, hlr]; rfl
    have hzs := hS.2.2.1 i j hi hj
    rw [← hze] at hzs
    unfold M.Sm at hzs
    have HS := Lib.hid hS
    have HO := Lib.hid hO
    have HNd := Lib.hid hn
    have HDf := Lib.hid hd
    have HPl := Lib.hid hpl
    have HVi := Lib.hid hvi
    have HVj := Lib.hid hvj
    have ht1 : ((N : Int) + 1 - 1) = (N : Int) := by omega
    have hNb : N ≤ 10 := by omega
    simp only [Nat.add_zero] at c0
    have HC : Hid (M.clB (M.ent R) over p wt = (decide (z ≠ -1000000000000000) && decide (over < wt + z))) := by show _ = _; unfold M.clB; rw [hvi, hvj, ← hze]
    clear hlr hIr hz hze hx0 hx1 h0 hN hvi hvj hn hd IH e3 hpl hS hO
    have HCR := Lib.hid cr
    have HCZ := Lib.hid cz
    clear cr cz
    go_enter Try.func106, Try.ntmps106
    go_wp2
    go_quiet (fail)
    generalize hwq : World.drewN w _ = wq
    have hbq : Below w.heap.size w wq := by rw [← hwq]; exact b_draws w _
    have cr := (hbq.cell (cell_lt HCR.out)).trans HCR.out
    have cz := (hbq.cell (cell_lt HCZ.out)).trans HCZ.out
    have HBq := Lib.hid hbq
    clear hwq c0 c1 hbq
    by_cases hc : M.clB (M.ent R) over p wt = true
    · have hcc := hc
      rw [HC.out, Bool.and_eq_true, decide_eq_true_eq, decide_eq_true_eq] at hcc
      obtain ⟨g1, g2⟩ := hcc
      have g3 : (z != -1000000000000000) = true := by simpa using g1
      have HG := Lib.hid (M.grow_yes (A := M.ent R) (n := L) (f := f) hc)
      clear hc g1
      go_wp2
      go_ret
      exact ⟨_, _, _, rfl, by rw [HG.out]; exact HO.out.below HBq.out, HBq.out⟩
    · simp only [Bool.not_eq_true] at hc
      have HG := Lib.hid (M.grow_no (A := M.ent R) (n := L) (f := f) hc)
      have hi1 : IntKind.i64.wrap ((i : Int) + 1) = (i : Int) + 1 := IntWalk.i64_in _ (by omega)
      obtain ⟨g, hg⟩ : ∃ g, g = M.stepG (M.ent R) L over f p wt := ⟨_, rfl⟩
      have HGg := Lib.hid hg
      rw [← hg, HVi.out] at HG
      have hgd : z ≠ -1000000000000000 → decide (over < wt + z) = false := fun hz => by
        rw [HC.out] at hc
        simpa [hz] using hc
      clear hc hg
      by_cases hzb : z = -1000000000000000
      · subst hzb
        clear hgd
        go_wp2
        go_loopw [11, 12] (fun v _ wr => ∃ k : Nat, i + 1 ≤ k ∧ k ≤ L ∧ v = .int .i64 k ∧ Hid (M.pick g (L - (i + 1)) (i + 1) = M.pick g (L - k) k) ∧ Below w.heap.size w wr) (fun v _ _ => L - (intOf v).toNat)
        case atStart => exact ⟨i + 1, by omega, by omega, by go_num, rfl, HBq.out⟩
        case round =>
          obtain ⟨k, hk1, hk2, rfl, HK, hb⟩ := hrel
          have HB1 := Lib.hid hb
          have hz1 : w.heap.size ≤ wr.heap.size := hb.size
          clear hb
          by_cases hk : k < L
          · have hki : (k : Int) < (L : Int) := by omega
            obtain ⟨ab', ao', ra', rc', L', lr, e', -, hlr, ck, hIr⟩ := (HS.out.below HB1.out).1.at k hk
            injection e' with e'
            injection e' with e1 e2 e3
            subst e1 e2
            have hL' : L' = L := by rw [← hIr.1, hlr]; exact HS.out.2.1.2 k hk
            subst hL'
            obtain ⟨rb', ro', y, rfl, -, hy, cy⟩ := hIr.at j hj
            have hye : y = M.ent R k j := by rw [hy, hlr]; rfl
            have hys := HS.out.2.2.1 k j hk hj
            rw [← hye] at hys
            unfold M.Sm at hys
            have HYe := Lib.hid hye
            clear hlr hIr hy hye e3
            by_cases hyb : y = -1000000000000000
            · have hg0 : (g k).length = 0 := by rw [HGg.out]; exact M.step_bot (by rw [HVj.out, ← HYe.out]; exact hyb)
              have HKn : Hid (M.pick g (L' - (i + 1)) (i + 1) = M.pick g (L' - (k + 1)) (k + 1)) := HK.out.trans (M.pick_no hk hg0)
              subst hyb
              clear hg0
              go_wp2
              go_roundw
              case rel => exact ⟨k + 1, by omega, by omega, by go_num, HKn, HB1.out⟩
              case measure => simp [intOf]; omega
            · have gy : (y == -1000000000000000) = false := by simpa using hyb
              have HIr := Lib.hid (HO.out.below HB1.out).ints'
              obtain ⟨hb0, hhb⟩ : ∃ hb0, hb0 = M.hasB p (k : Int) := ⟨_, rfl⟩
              have HHb := Lib.hid hhb
              clear hhb
              cases hb0 with
              | true =>
                have hg0 : (g k).length = 0 := by rw [HGg.out]; exact M.step_has HHb.out.symm
                have HKn : Hid (M.pick g (L' - (i + 1)) (i + 1) = M.pick g (L' - (k + 1)) (k + 1)) := HK.out.trans (M.pick_no hk hg0)
                clear hg0
                go_wp2_with (go_at_call 117; refine (sHas _ _ _ p _ _ (by exact HIr.out)).mono ?_; rintro e w' ⟨rfl, rfl⟩; rw [← HHb.out])
                go_roundw
                case rel => exact ⟨k + 1, by omega, by omega, by go_num, HKn, HB1.out⟩
                case measure => simp [intOf]; omega
              | false =>
                obtain ⟨t, ht⟩ : ∃ t, t = M.grow (M.ent R) L' over f (p ++ [(k : Int)]) (wt + y) := ⟨_, rfl⟩
                have HTt := Lib.hid ht
                have HGk : Hid (g k = t) := by show _ = _; rw [HGg.out, M.step_go (by rw [HVj.out, ← HYe.out]; exact hyb) HHb.out.symm, HVj.out, ← HYe.out]; exact ht.symm
                have HN2 := Lib.hid (M.nodesB_snoc HNd.out hk)
                have HD2 := Lib.hid (M.diffB_snoc HDf.out HHb.out.symm)
                have HIq : Hid (Ints .i64 wr.drew (some ⟨pb, po, none⟩) (N + 1) p) := HIr.out.below (Below.refl _ _).drew
                have hwy : IntKind.i64.wrap (wt + y) = wt + y := IntWalk.i64_in _ (by omega)
                have hA := cell_lt ck
                have hBb := cell_lt cy
                clear ht
                go_wp2_with (go_at_call 117; refine (sHas _ _ _ p _ _ (by exact HIr.out)).mono ?_; rintro e w' ⟨rfl, rfl⟩; rw [← HHb.out])
                go_region_held3 (fun w' => w'.cell? ⟨ab, ao + k, none⟩ = some (.slice (some ⟨rb', ro', none⟩) L' rc') ∧ w'.cell? ⟨rb', ro' + j, none⟩ = some (.int .i64 y) ∧ Below wr.heap.size wr w')
                  (first
                    | exact ⟨ck, cy, (Below.refl _ _).drew⟩
                    | exact keepg ‹_ ∧ _ ∧ Below _ _ _› hA hBb HBa.out
                    | exact keepg ‹_ ∧ _ ∧ Below _ _ _› hA hBb (HBo.out.mono (belowg ‹_ ∧ _ ∧ Below _ _ _›).size)
                    | exact keepg ‹_ ∧ _ ∧ Below _ _ _› hA hBb (HBc.out.mono (belowg ‹_ ∧ _ ∧ Below _ _ _›).size)
                    | exact keepg ‹_ ∧ _ ∧ Below _ _ _› hA hBb ((b_alloc _ _).mono (belowg ‹_ ∧ _ ∧ Below _ _ _›).size))
                  (first
                    | (go_at_call 118; refine (sOwn _ _ _ p _ ?hh ?h1 ?h2).mono ?_; (case hh => (first | exact HIq.out | exact HIq.out.below (b_alloc _ _))); (case h1 => omega); (case h2 => omega); rintro e w1 ⟨b1, c1, rfl, ho, hb⟩; have HO1 := Lib.hid ho; have HBo := Lib.hid hb; clear ho hb)
                    | (go_at_call 106; refine (HIH.out _ (N + 1 + 1) _ _ (wt + y) wr.heap.size _ ?hs HO2.out HN2.out HD2.out (by omega) (by omega) (by omega) (by omega) ?hz).mono ?_; (case hs => exact HS.out.below (HB1.out.trans ((belowg ‹_ ∧ _ ∧ Below _ _ _›).mono hz1))); (case hz => exact (belowg ‹_ ∧ _ ∧ Below _ _ _›).size); rintro e w3 ⟨b3, n3, c3, rfl, ho, hb⟩; have HO3 := Lib.hid ho; have HBc := Lib.hid hb; clear ho hb)
                    | (refine step_append1 _ rfl _ _ rfl wr.heap.size _ p (k : Int) _ (N + 1) HPl.out rfl ?ho rfl ?hy ?hl ?hb ?_; (case ho => (first | exact HO1.out.mono (Nat.le_refl _) | exact HO1.out.mono (by simp) | exact (HO1.out.below (b_alloc _ _)).mono (Nat.le_refl _))); (case hy => (first | (simp; done) | exact new_kept (wd := wr.drew) HBo.out)); (case hl => omega); (case hb => exact (belowg ‹_ ∧ _ ∧ Below _ _ _›).size); intro b2 c2 w2 ho hb; have HO2 := Lib.hid ho; have HBa := Lib.hid hb; clear ho hb))
                all_goals
                  have hbz : Below wr.heap.size wr w3 := by
                    first
                      | exact belowg ‹_ ∧ _ ∧ Below _ _ _›
                      | exact (belowg ‹_ ∧ _ ∧ Below wr.heap.size wr w2›).trans (HBc.out.mono (belowg ‹_ ∧ _ ∧ Below wr.heap.size wr w2›).size)
                  have HBz := Lib.hid (HB1.out.trans (hbz.mono hz1))
                  rw [← HTt.out] at HO3
                  have hlt := HO3.out.len
                  clear hbz
                  by_cases hn3 : n3 = 0
                  · subst hn3
                    have HKn : Hid (M.pick g (L' - (i + 1)) (i + 1) = M.pick g (L' - (k + 1)) (k + 1)) := HK.out.trans (M.pick_no hk (by rw [HGk.out]; exact hlt.symm))
                    clear hlt
                    go_wp2
                    go_roundw
                    case rel => exact ⟨k + 1, by omega, by omega, by go_num, HKn, HBz.out⟩
                    case measure => simp [intOf]; omega
                  · have HE : Hid (M.grow (M.ent R) L' over (f + 1) p wt = t) := HG.out.trans (HK.out.trans ((M.pick_yes hk (by rw [HGk.out]; omega)).trans HGk.out))
                    have hn3p : 0 < n3 := by omega
                    clear hlt
                    go_wp2
                    go_ret
                    exact ⟨_, _, _, rfl, by rw [HE.out]; exact HO3.out.mono (Nat.le_trans hB hz1), HBz.out⟩
          · obtain rfl : k = L := by omega
            have HE : Hid (M.grow (M.ent R) k over (f + 1) p wt = []) := HG.out.trans (HK.out.trans M.pick_end)
            go_wp2
            go_ret
            exact ⟨_, _, _, rfl, by rw [HE.out]; exact own_nil _ _, HB1.out⟩
      · have g3 : (z != -1000000000000000) = true := by simpa using hzb
        have g4 := hgd hzb
        clear hgd hzb
        go_wp2
        go_loopw [11, 12] (fun v _ wr => ∃ k : Nat, i + 1 ≤ k ∧ k ≤ L ∧ v = .int .i64 k ∧ Hid (M.pick g (L - (i + 1)) (i + 1) = M.pick g (L - k) k) ∧ Below w.heap.size w wr) (fun v _ _ => L - (intOf v).toNat)
        case atStart => exact ⟨i + 1, by omega, by omega, by go_num, rfl, HBq.out⟩
        case round =>
          obtain ⟨k, hk1, hk2, rfl, HK, hb⟩ := hrel
          have HB1 := Lib.hid hb
          have hz1 : w.heap.size ≤ wr.heap.size := hb.size
          clear hb
          by_cases hk : k < L
          · have hki : (k : Int) < (L : Int) := by omega
            obtain ⟨ab', ao', ra', rc', L', lr, e', -, hlr, ck, hIr⟩ := (HS.out.below HB1.out).1.at k hk
            injection e' with e'
            injection e' with e1 e2 e3
            subst e1 e2
            have hL' : L' = L := by rw [← hIr.1, hlr]; exact HS.out.2.1.2 k hk
            subst hL'
            obtain ⟨rb', ro', y, rfl, -, hy, cy⟩ := hIr.at j hj
            have hye : y = M.ent R k j := by rw [hy, hlr]; rfl
            have hys := HS.out.2.2.1 k j hk hj
            rw [← hye] at hys
            unfold M.Sm at hys
            have HYe := Lib.hid hye
            clear hlr hIr hy hye e3
            by_cases hyb : y = -1000000000000000
            · have hg0 : (g k).length = 0 := by rw [HGg.out]; exact M.step_bot (by rw [HVj.out, ← HYe.out]; exact hyb)
              have HKn : Hid (M.pick g (L' - (i + 1)) (i + 1) = M.pick g (L' - (k + 1)) (k + 1)) := HK.out.trans (M.pick_no hk hg0)
              subst hyb
              clear hg0
              go_wp2
              go_roundw
              case rel => exact ⟨k + 1, by omega, by omega, by go_num, HKn, HB1.out⟩
              case measure => simp [intOf]; omega
            · have gy : (y == -1000000000000000) = false := by simpa using hyb
              have HIr := Lib.hid (HO.out.below HB1.out).ints'
              obtain ⟨hb0, hhb⟩ : ∃ hb0, hb0 = M.hasB p (k : Int) := ⟨_, rfl⟩
              have HHb := Lib.hid hhb
              clear hhb
              cases hb0 with
              | true =>
                have hg0 : (g k).length = 0 := by rw [HGg.out]; exact M.step_has HHb.out.symm
                have HKn : Hid (M.pick g (L' - (i + 1)) (i + 1) = M.pick g (L' - (k + 1)) (k + 1)) := HK.out.trans (M.pick_no hk hg0)
                clear hg0
                go_wp2_with (go_at_call 117; refine (sHas _ _ _ p _ _ (by exact HIr.out)).mono ?_; rintro e w' ⟨rfl, rfl⟩; rw [← HHb.out])
                go_roundw
                case rel => exact ⟨k + 1, by omega, by omega, by go_num, HKn, HB1.out⟩
                case measure => simp [intOf]; omega
              | false =>
                obtain ⟨t, ht⟩ : ∃ t, t = M.grow (M.ent R) L' over f (p ++ [(k : Int)]) (wt + y) := ⟨_, rfl⟩
                have HTt := Lib.hid ht
                have HGk : Hid (g k = t) := by show _ = _; rw [HGg.out, M.step_go (by rw [HVj.out, ← HYe.out]; exact hyb) HHb.out.symm, HVj.out, ← HYe.out]; exact ht.symm
                have HN2 := Lib.hid (M.nodesB_snoc HNd.out hk)
                have HD2 := Lib.hid (M.diffB_snoc HDf.out HHb.out.symm)
                have HIq : Hid (Ints .i64 wr.drew (some ⟨pb, po, none⟩) (N + 1) p) := HIr.out.below (Below.refl _ _).drew
                have hwy : IntKind.i64.wrap (wt + y) = wt + y := IntWalk.i64_in _ (by omega)
                have hA := cell_lt ck
                have hBb := cell_lt cy
                clear ht
                go_wp2_with (go_at_call 117; refine (sHas _ _ _ p _ _ (by exact HIr.out)).mono ?_; rintro e w' ⟨rfl, rfl⟩; rw [← HHb.out])
                go_region_held3 (fun w' => w'.cell? ⟨ab, ao + k, none⟩ = some (.slice (some ⟨rb', ro', none⟩) L' rc') ∧ w'.cell? ⟨rb', ro' + j, none⟩ = some (.int .i64 y) ∧ Below wr.heap.size wr w')
                  (first
                    | exact ⟨ck, cy, (Below.refl _ _).drew⟩
                    | exact keepg ‹_ ∧ _ ∧ Below _ _ _› hA hBb HBa.out
                    | exact keepg ‹_ ∧ _ ∧ Below _ _ _› hA hBb (HBo.out.mono (belowg ‹_ ∧ _ ∧ Below _ _ _›).size)
                    | exact keepg ‹_ ∧ _ ∧ Below _ _ _› hA hBb (HBc.out.mono (belowg ‹_ ∧ _ ∧ Below _ _ _›).size)
                    | exact keepg ‹_ ∧ _ ∧ Below _ _ _› hA hBb ((b_alloc _ _).mono (belowg ‹_ ∧ _ ∧ Below _ _ _›).size))
                  (first
                    | (go_at_call 118; refine (sOwn _ _ _ p _ ?hh ?h1 ?h2).mono ?_; (case hh => (first | exact HIq.out | exact HIq.out.below (b_alloc _ _))); (case h1 => omega); (case h2 => omega); rintro e w1 ⟨b1, c1, rfl, ho, hb⟩; have HO1 := Lib.hid ho; have HBo := Lib.hid hb; clear ho hb)
                    | (go_at_call 106; refine (HIH.out _ (N + 1 + 1) _ _ (wt + y) wr.heap.size _ ?hs HO2.out HN2.out HD2.out (by omega) (by omega) (by omega) (by omega) ?hz).mono ?_; (case hs => exact HS.out.below (HB1.out.trans ((belowg ‹_ ∧ _ ∧ Below _ _ _›).mono hz1))); (case hz => exact (belowg ‹_ ∧ _ ∧ Below _ _ _›).size); rintro e w3 ⟨b3, n3, c3, rfl, ho, hb⟩; have HO3 := Lib.hid ho; have HBc := Lib.hid hb; clear ho hb)
                    | (refine step_append1 _ rfl _ _ rfl wr.heap.size _ p (k : Int) _ (N + 1) HPl.out rfl ?ho rfl ?hy ?hl ?hb ?_; (case ho => (first | exact HO1.out.mono (Nat.le_refl _) | exact HO1.out.mono (by simp) | exact (HO1.out.below (b_alloc _ _)).mono (Nat.le_refl _))); (case hy => (first | (simp; done) | exact new_kept (wd := wr.drew) HBo.out)); (case hl => omega); (case hb => exact (belowg ‹_ ∧ _ ∧ Below _ _ _›).size); intro b2 c2 w2 ho hb; have HO2 := Lib.hid ho; have HBa := Lib.hid hb; clear ho hb))
                all_goals
                  have hbz : Below wr.heap.size wr w3 := by
                    first
                      | exact belowg ‹_ ∧ _ ∧ Below _ _ _›
                      | exact (belowg ‹_ ∧ _ ∧ Below wr.heap.size wr w2›).trans (HBc.out.mono (belowg ‹_ ∧ _ ∧ Below wr.heap.size wr w2›).size)
                  have HBz := Lib.hid (HB1.out.trans (hbz.mono hz1))
                  rw [← HTt.out] at HO3
                  have hlt := HO3.out.len
                  clear hbz
                  by_cases hn3 : n3 = 0
                  · subst hn3
                    have HKn : Hid (M.pick g (L' - (i + 1)) (i + 1) = M.pick g (L' - (k + 1)) (k + 1)) := HK.out.trans (M.pick_no hk (by rw [HGk.out]; exact hlt.symm))
                    clear hlt
                    go_wp2
                    go_roundw
                    case rel => exact ⟨k + 1, by omega, by omega, by go_num, HKn, HBz.out⟩
                    case measure => simp [intOf]; omega
                  · have HE : Hid (M.grow (M.ent R) L' over (f + 1) p wt = t) := HG.out.trans (HK.out.trans ((M.pick_yes hk (by rw [HGk.out]; omega)).trans HGk.out))
                    have hn3p : 0 < n3 := by omega
                    clear hlt
                    go_wp2
                    go_ret
                    exact ⟨_, _, _, rfl, by rw [HE.out]; exact HO3.out.mono (Nat.le_trans hB hz1), HBz.out⟩
          · obtain rfl : k = L := by omega
            have HE : Hid (M.grow (M.ent R) k over (f + 1) p wt = []) := HG.out.trans (HK.out.trans M.pick_end)
            go_wp2
            go_ret
            exact ⟨_, _, _, rfl, by rw [HE.out]; exact own_nil _ _, HB1.out⟩
end Go.Proofs.Ytkilnneepnbckaa.V

namespace Go.Proofs.Ytkilnneepnbckaa.V
open Go.RowKit

set_option maxRecDepth 100000 in
set_option maxHeartbeats 4000000 in
theorem transposed (a : Option Addr) (n cap L : Nat) (R : List (List Int)) (w : World) (h : Mat w a n R) (hr : Rect R n L) (n1 : 1 ≤ n) (n2 : n ≤ 10) (l1 : 1 ≤ L) (l2 : L ≤ 10) :
    Calls Try.prog 122 #[.slice a n cap] w (MPost L (M.mk L n (fun i j => M.ent R j i)) w) := by
  have HA := Lib.hid h
  have HR := Lib.hid hr
  obtain ⟨b, off, ra, rc, rfl, hbw, hc⟩ := h.rect_first hr (by omega)
  have hmk := run_make_row' (P := Try.prog) 24 28 (.slice none 0 0) 24 Try.underlying24 infoS64 rfl .i64 .i64 L (by omega) (by omega)
  have hmk2 := run_make_row' (P := Try.prog) 28 2 (.int .i64 0) 8 Try.underlying28 info64 rfl .i64 .i64 n (by omega) (by omega)
  have hO0 : Hid (OwnM (w.alloc (.cells (madeCells #[.slice none 0 0] L) 28)) w.heap.size (.slice (some ⟨w.heap.size, 0, none⟩) L L) (M.part L n (fun i j => M.ent R j i) 0)) := by
    rw [M.part_zero]; exact ownM_made w _ L (Nat.le_refl _) (by unfold maxLen; omega)
  have HB0 : Hid (Below w.heap.size w (w.alloc (.cells (madeCells #[.slice none 0 0] L) 28))) := b_alloc w _
  clear h hr
  go_enter Try.func122, Try.ntmps122
  go_wp2
  clear hc
  go_loopw [14] (fun i wr => ∃ k : Nat, k ≤ L ∧ i = .int .i64 k ∧ OwnM wr w.heap.size (.slice (some ⟨w.heap.size, 0, none⟩) L L) (M.part L n (fun i j => M.ent R j i) k) ∧ Below w.heap.size w wr) (fun i _ => L - (intOf i).toNat)
  case atStart => exact ⟨0, Nat.zero_le _, rfl, hO0.out, HB0.out⟩
  case round =>
    obtain ⟨k, hk, rfl, hO, hb⟩ := hrel
    obtain ⟨wo, rfl⟩ : ∃ x, x = wr := ⟨_, rfl⟩
    have HO := Lib.hid hO
    have HB := Lib.hid hb
    clear hO hb hO0 HB0
    by_cases hlt : k < L
    · have hki : (k : Int) < (L : Int) := by omega
      have hg := HO.out.lt rfl
      have hsz := HB.out.size
      obtain ⟨v0, hv0⟩ := HO.out.outer k hlt
      have hfz0 := HO.out.outerFz k
      have hO2 := HO.out.setRow (b_alloc wo (.cells (madeCells #[.int .i64 0] n) 2)) hsz (own_made wo wo.heap.size n (Nat.le_refl _) (by unfold maxLen; omega)) k hlt
      rw [M.part_set] at hO2
      rw [World.setCell_alloc_past _ _ _ _ hg] at hO2
      have HO2 := Lib.hid hO2
      have hB2 := (((HB.out.alloc hsz (.cells (madeCells #[.int .i64 0] n) 2))).setCell (p := ⟨w.heap.size, k, none⟩) (Nat.le_refl _) (.slice (some ⟨wo.heap.size, 0, none⟩) n n))
      rw [World.setCell_alloc_past _ _ _ _ hg] at hB2
      have HB2 := Lib.hid hB2
      clear hO2 hB2
      go_wp2
      clear hv0 hfz0 hg
      go_loopw [25] (fun j wr => ∃ t : Nat, t ≤ n ∧ j = .int .i64 t ∧ OwnM wr w.heap.size (.slice (some ⟨w.heap.size, 0, none⟩) L L) (M.part2 L n (fun i j => M.ent R j i) k t) ∧ Below w.heap.size w wr) (fun j _ => n - (intOf j).toNat)
      case atStart => exact ⟨0, Nat.zero_le _, rfl, HO2.out, HB2.out⟩
      case round =>
        obtain ⟨t, ht, rfl, hO, hb⟩ := hrel
        have HOi := Lib.hid hO
        have HBi := Lib.hid hb
        clear hO hb HO2 HB2
        by_cases htl : t < n
        · have hti : (t : Int) < (n : Int) := by omega
          obtain ⟨g, q, L3, c3, x3, hgg, hg3, hq3, hL3, hx3, c31, c32, f31, ho3⟩ := HOi.out.at k t hlt (by rw [M.part2_rowlen _ _ _ _ _ hlt]; exact htl)
          injection hgg with hgg
          injection hgg with hgg
          subst hgg
          rw [M.part2_rowlen _ _ _ _ _ hlt] at hL3
          subst hL3
          obtain ⟨d, od, rd, ro, c4, x4, hdd, hx4, c41, c42⟩ := (HA.out.below HBi.out).rect_ent HR.out t k htl hlt
          injection hdd with hdd
          injection hdd with e1 e2
          subst e1 e2
          have HN : Hid (OwnM (wr.setCell ⟨q, t, none⟩ (.int .i64 x4)) w.heap.size (.slice (some ⟨w.heap.size, 0, none⟩) L L) (M.part2 L L3 (fun i j => M.ent R j i) k (t + 1))) :=
            (congrArg (OwnM _ _ _) (by rw [hx4]; exact M.part2_set _ _ (fun i j => M.ent R j i) _ _ hlt)).mp (ho3 x4)
          clear ho3 hx3 hx4
          go_wp2
          go_still_tail 10, (by kernel_rfl)
          change wpList _ _ _ _ _ wr.drew
          go_wp2
          go_roundw
          case rel => exact ⟨t + 1, by omega, by go_num, HN.out.keep (fun _ _ _ => rfl), HBi.out.drew.setCell hq3 _⟩
          case measure => simp [intOf]; omega
        · obtain rfl : t = n := by omega
          have hO2 := HOi.out
          rw [M.part2_end] at hO2
          have HO2 := Lib.hid hO2
          clear hO2
          go_wp2
          go_roundw
          case rel => exact ⟨k + 1, by omega, by go_num, HO2.out, HBi.out⟩
          case measure => simp [intOf]; omega
    · obtain rfl : k = L := by omega
      go_wp2
      go_ret
      exact ⟨_, _, rfl, by rw [← M.part_end]; exact HO.out, HB.out⟩


end Go.Proofs.Ytkilnneepnbckaa.V
