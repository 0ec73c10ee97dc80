/- Texts laid together: IMul, Trans, Apply. -/
import Derived.Test.YtcofjjipjcekjaaGreatRows
import Derived.Test.YtcofjjipjcekjaaGreatQy1
import Derived.Test.YtcofjjipjcekjaaGreatQy2
import Derived.WalkKit
import Derived.ProofKit
import Derived.WalkSmall
import Derived.Deep.QuietTactic
import Derived.BigQuiet
import Derived.BigRegion
import Derived.Deep.Draws
import Derived.Lib.Hide
import Derived.OpenShut
import Derived.Deep.OwnRows
import Derived.StillTailTactics
set_option linter.unusedSimpArgs false
set_option linter.unusedVariables false
set_option linter.unusedSectionVars false
namespace Go.Proofs.YtcofjjipjcekjaaGreat.V
open Go.RowKit

set_option maxRecDepth 100000 in
set_option maxHeartbeats 400000 in
theorem timesB (a b : Int) (w : World) (ha : M.Big a) (hb : M.Big b) : Calls Tryz.prog 90 #[.int .i64 a, .int .i64 b] w fun e w' => e = .returned (.int .i64 (M.times a b)) ∧ w = w' := by
  have ba := M.big_bound ha
  have bb := M.big_bound hb
  clear ha hb
  obtain ⟨ba1, ba2⟩ := ba
  obtain ⟨bb1, bb2⟩ := bb
  by_cases h : a = -1000000000000000
  · subst h
    go_enter Tryz.func90, Tryz.ntmps90
    go_wp2
    all_goals go_ret; exact ⟨retI (by simp [M.times]), rfl⟩
  · have h' : (a == -1000000000000000) = false := by simpa using h
    by_cases h2 : b = -1000000000000000
    · subst h2
      go_enter Tryz.func90, Tryz.ntmps90
      go_wp2
      all_goals go_ret; exact ⟨retI (by simp [M.times]), rfl⟩
    · have h2' : (b == -1000000000000000) = false := by simpa using h2
      go_enter Tryz.func90, Tryz.ntmps90
      go_wp2
      all_goals go_ret; exact ⟨retI (by simp [M.times, h, h2]), rfl⟩

set_option maxRecDepth 100000 in
set_option maxHeartbeats 400000 in
theorem clTimes (a b : Int) (w : World) (ha : M.Big a) (hb : M.Big b) : Calls Tryz.prog 89 #[.int .i64 a, .int .i64 b] w fun e w' => e = .returned (.int .i64 (M.times a b)) ∧ w = w' := by
  have HA := Lib.hid ha
  have HB := Lib.hid hb
  clear ha hb
  go_enter Tryz.func89, Tryz.ntmps89
  go_wp2_with (first | (go_at_call 90; refine (timesB _ _ _ HA.out HB.out).mono ?_; rintro e w' ⟨rfl, rfl⟩))
  go_ret
  exact ⟨rfl, rfl⟩

theorem dot_one {R R' : List (List Int)} {i j : Nat} (h : M.Big (M.ent R i 0)) (h' : M.Big (M.ent R' 0 j)) : M.dot R R' i j 1 = M.times (M.ent R i 0) (M.ent R' 0 j) :=
  M.sumN_one (M.big_times_ge h h')

set_option maxRecDepth 100000 in
set_option maxHeartbeats 4000000 in
theorem multipliedB (a : Option Addr) (n cap N : Nat) (R : List (List Int)) (a' : Option Addr) (cap' L : Nat) (R' : List (List Int)) (w : World) (h : Mat w a n R) (h' : Mat w a' N R') (hr : Rect R n N) (hr' : Rect R' N L)
    (hR : ∀ i k, i < n → k < N → M.Big (M.ent R i k)) (hR' : ∀ k j, k < N → j < L → M.Big (M.ent R' k j)) (n1 : 1 ≤ n) (n2 : n ≤ 10) (N1 : 1 ≤ N) (N2 : N ≤ 10) (l1 : 1 ≤ L) (l2 : L ≤ 10) :
    Calls Tryz.prog 100 #[.slice a n cap, .slice a' N cap', .agg #[.func (.func 87) #[] #[], .func (.func 89) #[] #[]]] w (MPost n (M.mk n L (fun i j => M.dot R R' i j N)) w) := by
  obtain ⟨wb, hwb⟩ : ∃ wb, wb = w.alloc (.cells #[.func (.func 87) #[] #[], .func (.func 89) #[] #[]] 85) := ⟨_, rfl⟩
  have hsb : wb.heap.size = w.heap.size + 1 := by rw [hwb]; simp
  have hbw : Below w.heap.size w wb := by rw [hwb]; exact b_alloc _ _
  have k0 : wb.cell? ⟨w.heap.size, 0, none⟩ = some (.func (.func 87) #[] #[]) := by rw [hwb]; simp [go_sem]
  have k1 : wb.cell? ⟨w.heap.size, 1, none⟩ = some (.func (.func 89) #[] #[]) := by rw [hwb]; simp [go_sem]
  have HA := Lib.hid (h.below hbw)
  have HA' := Lib.hid (h'.below hbw)
  have HR := Lib.hid hr
  have HR' := Lib.hid hr'
  have HV := Lib.hid hR
  have HV' := Lib.hid hR'
  have HK0 := Lib.hid k0
  have HK1 := Lib.hid k1
  have HBW := Lib.hid hbw
  have HSB := Lib.hid hsb
  have HWB := Lib.hid hwb
  obtain ⟨b, off, -, -, rfl, -, -⟩ := h.rect_first hr (by omega)
  obtain ⟨b', off', -, -, rfl, -, -⟩ := h'.rect_first hr' (by omega)
  have hmk := run_make_row' (P := Tryz.prog) 24 26 (.slice none 0 0) 24 Tryz.underlying24 infoS64 rfl .i64 .i64 n (by omega) (by omega)
  have hmk2 := run_make_row' (P := Tryz.prog) 26 2 (.int .i64 0) 8 Tryz.underlying26 info64 rfl .i64 .i64 L (by omega) (by omega)
  have hO0 : Hid (OwnM (wb.alloc (.cells (madeCells #[.slice none 0 0] n) 26)) wb.heap.size (.slice (some ⟨wb.heap.size, 0, none⟩) n n) (M.part n L (fun i j => M.dot R R' i j N) 0)) := by
    rw [M.part_zero]; exact ownM_made wb _ n (Nat.le_refl _) (by unfold maxLen; omega)
  have HB0 : Hid (Below wb.heap.size wb (wb.alloc (.cells (madeCells #[.slice none 0 0] n) 26))) := b_alloc wb _
  clear h h' hr hr' hR hR' hwb hsb hbw k0 k1
  go_enter Tryz.func100, Tryz.ntmps100
  go_wp2
  go_loopw [18] (fun i wr => ∃ k : Nat, k ≤ n ∧ i = .int .i64 k ∧ OwnM wr (w.heap.size + 1) (.slice (some ⟨w.heap.size + 1, 0, none⟩) n n) (M.part n L (fun i j => M.dot R R' i j N) k) ∧ Below (w.heap.size + 1) wb wr) (fun i _ => n - (intOf i).toNat)
  case atStart =>
    refine ⟨0, Nat.zero_le _, rfl, ?_, ?_⟩
    · have := hO0.out
      rw [HSB.out, HWB.out] at this
      exact this
    · have := HB0.out
      rw [HSB.out] at this
      rw [HWB.out] at this ⊢
      exact this
  case round =>
    obtain ⟨k, hk, rfl, hO, hb⟩ := hrel
    obtain ⟨wo, rfl⟩ : ∃ x, x = wr := ⟨_, rfl⟩
    have HO := Lib.hid hO
    have HB := Lib.hid hb
    clear hO hb hO0 HB0
    by_cases hlt : k < n
    · have hki : (k : Int) < (n : Int) := by omega
      have hg := HO.out.lt rfl
      have hsz : w.heap.size + 1 ≤ wo.heap.size := by have := HB.out.size; have := HSB.out; omega
      have HBx : Hid (Below wb.heap.size wb wo) := by show Below _ _ _; rw [HSB.out]; exact HB.out
      obtain ⟨d, od, rr, rcr, hdd, hbr, hcr0, hIr⟩ := HA.out.rect_at HR.out k hlt
      injection hdd with hdd
      injection hdd with e1 e2
      subst e1 e2
      have hcr : wo.cell? ⟨b, off + k, none⟩ = some (.slice rr N rcr) := by rw [HBx.out.cell (p := ⟨b, off + k, none⟩) hbr]; exact hcr0
      have HIR := Lib.hid hIr
      obtain ⟨rrb, rro, x0, rfl, -, hx0, hcx⟩ := hIr.at 0 (by omega)
      obtain ⟨d, od, rf, rcf, hdd, -, hcf⟩ := (HA'.out.below HBx.out).rect_first HR'.out (by omega)
      injection hdd with hdd
      injection hdd with e1 e2
      subst e1 e2
      obtain ⟨v0, hv0⟩ := HO.out.outer k hlt
      have hfz0 := HO.out.outerFz k
      have hO2 := HO.out.setRow (b_alloc wo (.cells (madeCells #[.int .i64 0] L) 2)) hsz (own_made wo wo.heap.size L (Nat.le_refl _) (by unfold maxLen; omega)) k hlt
      rw [M.part_set] at hO2
      rw [World.setCell_alloc_past _ _ _ _ hg] at hO2
      have HO2 := Lib.hid hO2
      have hB2 := (((HB.out.alloc hsz (.cells (madeCells #[.int .i64 0] L) 2))).setCell (p := ⟨w.heap.size + 1, k, none⟩) (Nat.le_refl _) (.slice (some ⟨wo.heap.size, 0, none⟩) L L))
      rw [World.setCell_alloc_past _ _ _ _ hg] at hB2
      have HB2 := Lib.hid hB2
      clear hO2 hB2 hIr hx0 hcx hcr0
      go_wp2
      clear hv0 hfz0 hg hcf hcr
      go_loopw [36] (fun j wr => ∃ t : Nat, t ≤ L ∧ j = .int .i64 t ∧ OwnM wr (w.heap.size + 1) (.slice (some ⟨w.heap.size + 1, 0, none⟩) n n) (M.part2 n L (fun i j => M.dot R R' i j N) k t) ∧ Below (w.heap.size + 1) wb wr) (fun j _ => L - (intOf j).toNat)
      case atStart => exact ⟨0, Nat.zero_le _, rfl, HO2.out, HB2.out⟩
      case round =>
        obtain ⟨t, ht, rfl, hO, hb⟩ := hrel
        obtain ⟨wp, rfl⟩ : ∃ x, x = wr := ⟨_, rfl⟩
        have HOi := Lib.hid hO
        have HBi := Lib.hid hb
        clear hO hb HO2 HB2 HO
        by_cases htl : t < L
        · have hti : (t : Int) < (L : Int) := by omega
          have HBy : Hid (Below wb.heap.size wb wp) := by show Below _ _ _; rw [HSB.out]; exact HBi.out
          have q0 : wp.cell? ⟨w.heap.size, 0, none⟩ = some (.func (.func 87) #[] #[]) := by rw [HBi.out.cell (p := ⟨w.heap.size, 0, none⟩) (Nat.lt_succ_self _)]; exact HK0.out
          have q1 : wp.cell? ⟨w.heap.size, 1, none⟩ = some (.func (.func 89) #[] #[]) := by rw [HBi.out.cell (p := ⟨w.heap.size, 1, none⟩) (Nat.lt_succ_self _)]; exact HK1.out
          obtain ⟨rx, ro, x1, hrr, -, hx1, hcx1⟩ := (HIR.out.below HBy.out).at 0 (by omega)
          injection hrr with hrr
          injection hrr with e1 e2
          subst e1 e2
          rw [Nat.add_zero] at hcx1
          obtain ⟨d, od, rd, rdo, c4, x2, hdd, hx2, c41, c42⟩ := (HA'.out.below HBy.out).rect_ent HR'.out 0 t (by omega) htl
          injection hdd with hdd
          injection hdd with e1 e2
          subst e1 e2
          rw [Nat.add_zero] at c41
          have hx1' : x1 = M.ent R k 0 := hx1
          have HV1 : Hid (M.Big x1) := by show M.Big _; rw [hx1']; exact HV.out k 0 hlt (by omega)
          have HV2 : Hid (M.Big x2) := by show M.Big _; rw [hx2]; exact HV'.out 0 t (by omega) htl
          obtain ⟨s1, hs1⟩ : ∃ s1, s1 = M.dot R R' k t 1 := ⟨_, rfl⟩
          have HS1 := Lib.hid hs1
          have HC1 : ∀ w : World, Calls Tryz.prog 89 #[.int .i64 x1, .int .i64 x2] w fun e w' => e = .returned (.int .i64 s1) ∧ w = w' := by
            intro w
            rw [hs1, dot_one (HV.out k 0 hlt (by omega)) (HV'.out 0 t (by omega) htl), ← hx1', ← hx2]
            exact clTimes _ _ _ HV1.out HV2.out
          obtain ⟨g, q, L3, c3, x3, hgg, hg3, hq3, hL3, hx3, c31, c32, f31, ho3⟩ := HOi.out.at k t hlt (by rw [M.part2_rowlen _ _ _ _ _ hlt]; exact htl)
          injection hgg with hgg
          injection hgg with hgg
          subst hgg
          rw [M.part2_rowlen _ _ _ _ _ hlt] at hL3
          subst hL3
          have HN : Hid (OwnM (wp.setCell ⟨q, t, none⟩ (.int .i64 (M.dot R R' k t N))) (w.heap.size + 1) (.slice (some ⟨w.heap.size + 1, 0, none⟩) n n) (M.part2 n L3 (fun i j => M.dot R R' i j N) k (t + 1))) :=
            (congrArg (OwnM _ _ _) (M.part2_set _ _ (fun i j => M.dot R R' i j N) _ _ hlt)).mp (ho3 (M.dot R R' k t N))
          clear hs1 hx1 hx1' hx2 hx3 ho3
          go_wp2
          go_quiet ((go_at_call 89; exact q_one_s (HC1 _)))
          clear hcx1 c42 c41
          go_wp2
          go_loopw [11, 12] (fun sm l wr => ∃ u : Nat, 1 ≤ u ∧ u ≤ N ∧ l = .int .i64 u ∧ (∃ y, sm = .int .i64 y ∧ Hid (y = M.dot R R' k t u)) ∧ ∃ q, wr = wp.drewN q) (fun _ l _ => N - (intOf l).toNat)
          case atStart => exact ⟨1, Nat.le_refl _, N1, rfl, ⟨_, rfl, HS1⟩, _, rfl⟩
          case round =>
            obtain ⟨u, hu1, hu, rfl, ⟨y, rfl, HY⟩, q2, rfl⟩ := hrel
            by_cases hul : u < N
            · have hui : (u : Int) < (N : Int) := by omega
              obtain ⟨rx, ro, x1, hrr, -, hx1, hcx1⟩ := (HIR.out.below HBy.out).at u hul
              injection hrr with hrr
              injection hrr with e1 e2
              subst e1 e2
              obtain ⟨d, od, rd, rdo, c4, x2, hdd, hx2, c41, c42⟩ := (HA'.out.below HBy.out).rect_ent HR'.out u t hul htl
              injection hdd with hdd
              injection hdd with e1 e2
              subst e1 e2
              have hx1' : x1 = M.ent R k u := hx1
              have HV1 : Hid (M.Big x1) := by show M.Big _; rw [hx1']; exact HV.out k u hlt hul
              have HV2 : Hid (M.Big x2) := by show M.Big _; rw [hx2]; exact HV'.out u t hul htl
              obtain ⟨z, hz⟩ : ∃ z, z = M.times x1 x2 := ⟨_, rfl⟩
              obtain ⟨y2, hy2⟩ : ∃ y2, y2 = max y z := ⟨_, rfl⟩
              have HY2 : Hid (y2 = M.dot R R' k t (u + 1)) := by show _ = _; rw [hy2, hz, HY.out, hx1', hx2]; rfl
              have HC1 : ∀ w : World, Calls Tryz.prog 89 #[.int .i64 x1, .int .i64 x2] w fun e w' => e = .returned (.int .i64 z) ∧ w = w' := by
                intro w
                rw [hz]
                exact clTimes _ _ _ HV1.out HV2.out
              have HC2 : ∀ w : World, Calls Tryz.prog 87 #[.int .i64 y, .int .i64 z] w fun e w' => e = .returned (.int .i64 y2) ∧ w = w' := by
                intro w
                rw [hy2]
                exact clPlus _ _ _
              clear hx1 hx1' hx2 hz hy2
              go_wp2
              go_quiet (first | (go_at_call 89; exact q_more_s (HC1 _)) | (go_at_call 87; exact q_more_s (HC2 _)))
              go_wp2
              go_roundw
              case rel => exact ⟨u + 1, by omega, by omega, by go_num, ⟨_, rfl, HY2⟩, _, rfl⟩
              case measure => simp [intOf]; omega
            · obtain rfl : u = N := by omega
              go_wp2
              exact ⟨⟨t + 1, by omega, by go_num, by rw [HY.out]; exact HN.out.keep (fun _ _ _ => rfl), (below_drewN HBi.out _).setCell hq3 _⟩, by simp [intOf]; omega⟩
        · obtain rfl : t = L := by omega
          have hO2 := HOi.out
          rw [M.part2_end] at hO2
          have HO2 := Lib.hid hO2
          clear hO2
          go_wp2
          go_roundw
          case rel => exact ⟨k + 1, by omega, by go_num, HO2.out, HBi.out⟩
          case measure => simp [intOf]; omega
    · obtain rfl : k = n := by omega
      go_wp2
      go_ret
      refine ⟨_, _, rfl, ?_, ?_⟩
      · rw [← M.part_end]; exact HO.out.mono (Nat.le_succ _)
      · exact HBW.out.trans (HB.out.mono (Nat.le_succ _))
theorem multiplied (a : Option Addr) (n cap N : Nat) (R : List (List Int)) (a' : Option Addr) (cap' L : Nat) (R' : List (List Int)) (w : World) (h : Mat w a n R) (h' : Mat w a' N R') (hr : Rect R n N) (hr' : Rect R' N L)
    (hR : M.isMat R = true) (hR' : M.isMat R' = true) (n1 : 1 ≤ n) (n2 : n ≤ 10) (N1 : 1 ≤ N) (N2 : N ≤ 10) (l1 : 1 ≤ L) (l2 : L ≤ 10) :
    Calls Tryz.prog 100 #[.slice a n cap, .slice a' N cap', .agg #[.func (.func 87) #[] #[], .func (.func 89) #[] #[]]] w (MPost n (M.mk n L (fun i j => M.dot R R' i j N)) w) :=
  multipliedB a n cap N R a' cap' L R' w h h' hr hr' (fun i k hi hk => M.big_val (tm_val hR hr (by omega) hi hk)) (fun k j hk hj => M.big_val (tm_val hR' hr' (by omega) hk hj)) n1 n2 N1 N2 l1 l2
end Go.Proofs.YtcofjjipjcekjaaGreat.V

namespace Go.Proofs.YtcofjjipjcekjaaGreat.V
open Go.RowKit

set_option maxRecDepth 100000 in
set_option maxHeartbeats 4000000 in
theorem transposed (a : Option Addr) (n cap L : Nat) (R : List (List Int)) (w : World) (h : Mat w a n R) (hr : Rect R n L) (n1 : 1 ≤ n) (n2 : n ≤ 10) (l1 : 1 ≤ L) (l2 : L ≤ 10) :
    Calls Tryz.prog 57 #[.slice a n cap] w (MPost L (M.mk L n (fun i j => M.ent R j i)) w) := by
  have HA := Lib.hid h
  have HR := Lib.hid hr
  obtain ⟨b, off, ra, rc, rfl, hbw, hc⟩ := h.rect_first hr (by omega)
  have hmk := run_make_row' (P := Tryz.prog) 24 26 (.slice none 0 0) 24 Tryz.underlying24 infoS64 rfl .i64 .i64 L (by omega) (by omega)
  have hmk2 := run_make_row' (P := Tryz.prog) 26 2 (.int .i64 0) 8 Tryz.underlying26 info64 rfl .i64 .i64 n (by omega) (by omega)
  have hO0 : Hid (OwnM (w.alloc (.cells (madeCells #[.slice none 0 0] L) 26)) w.heap.size (.slice (some ⟨w.heap.size, 0, none⟩) L L) (M.part L n (fun i j => M.ent R j i) 0)) := by
    rw [M.part_zero]; exact ownM_made w _ L (Nat.le_refl _) (by unfold maxLen; omega)
  have HB0 : Hid (Below w.heap.size w (w.alloc (.cells (madeCells #[.slice none 0 0] L) 26))) := b_alloc w _
  clear h hr
  go_enter Tryz.func57, Tryz.ntmps57
  go_wp2
  clear hc
  go_loopw [14] (fun i wr => ∃ k : Nat, k ≤ L ∧ i = .int .i64 k ∧ OwnM wr w.heap.size (.slice (some ⟨w.heap.size, 0, none⟩) L L) (M.part L n (fun i j => M.ent R j i) k) ∧ Below w.heap.size w wr) (fun i _ => L - (intOf i).toNat)
  case atStart => exact ⟨0, Nat.zero_le _, rfl, hO0.out, HB0.out⟩
  case round =>
    obtain ⟨k, hk, rfl, hO, hb⟩ := hrel
    obtain ⟨wo, rfl⟩ : ∃ x, x = wr := ⟨_, rfl⟩
    have HO := Lib.hid hO
    have HB := Lib.hid hb
    clear hO hb hO0 HB0
    by_cases hlt : k < L
    · have hki : (k : Int) < (L : Int) := by omega
      have hg := HO.out.lt rfl
      have hsz := HB.out.size
      obtain ⟨v0, hv0⟩ := HO.out.outer k hlt
      have hfz0 := HO.out.outerFz k
      have hO2 := HO.out.setRow (b_alloc wo (.cells (madeCells #[.int .i64 0] n) 2)) hsz (own_made wo wo.heap.size n (Nat.le_refl _) (by unfold maxLen; omega)) k hlt
      rw [M.part_set] at hO2
      rw [World.setCell_alloc_past _ _ _ _ hg] at hO2
      have HO2 := Lib.hid hO2
      have hB2 := (((HB.out.alloc hsz (.cells (madeCells #[.int .i64 0] n) 2))).setCell (p := ⟨w.heap.size, k, none⟩) (Nat.le_refl _) (.slice (some ⟨wo.heap.size, 0, none⟩) n n))
      rw [World.setCell_alloc_past _ _ _ _ hg] at hB2
      have HB2 := Lib.hid hB2
      clear hO2 hB2
      go_wp2
      clear hv0 hfz0 hg
      go_loopw [25] (fun j wr => ∃ t : Nat, t ≤ n ∧ j = .int .i64 t ∧ OwnM wr w.heap.size (.slice (some ⟨w.heap.size, 0, none⟩) L L) (M.part2 L n (fun i j => M.ent R j i) k t) ∧ Below w.heap.size w wr) (fun j _ => n - (intOf j).toNat)
      case atStart => exact ⟨0, Nat.zero_le _, rfl, HO2.out, HB2.out⟩
      case round =>
        obtain ⟨t, ht, rfl, hO, hb⟩ := hrel
        have HOi := Lib.hid hO
        have HBi := Lib.hid hb
        clear hO hb HO2 HB2
        by_cases htl : t < n
        · have hti : (t : Int) < (n : Int) := by omega
          obtain ⟨g, q, L3, c3, x3, hgg, hg3, hq3, hL3, hx3, c31, c32, f31, ho3⟩ := HOi.out.at k t hlt (by rw [M.part2_rowlen _ _ _ _ _ hlt]; exact htl)
          injection hgg with hgg
          injection hgg with hgg
          subst hgg
          rw [M.part2_rowlen _ _ _ _ _ hlt] at hL3
          subst hL3
          obtain ⟨d, od, rd, ro, c4, x4, hdd, hx4, c41, c42⟩ := (HA.out.below HBi.out).rect_ent HR.out t k htl hlt
          injection hdd with hdd
          injection hdd with e1 e2
          subst e1 e2
          have HN : Hid (OwnM (wr.setCell ⟨q, t, none⟩ (.int .i64 x4)) w.heap.size (.slice (some ⟨w.heap.size, 0, none⟩) L L) (M.part2 L L3 (fun i j => M.ent R j i) k (t + 1))) :=
            (congrArg (OwnM _ _ _) (by rw [hx4]; exact M.part2_set _ _ (fun i j => M.ent R j i) _ _ hlt)).mp (ho3 x4)
          clear ho3 hx3 hx4
          go_wp2
          go_still_tail 10, (by kernel_rfl)
          change wpList _ _ _ _ _ wr.drew
          go_wp2
          go_roundw
          case rel => exact ⟨t + 1, by omega, by go_num, HN.out.keep (fun _ _ _ => rfl), HBi.out.drew.setCell hq3 _⟩
          case measure => simp [intOf]; omega
        · obtain rfl : t = n := by omega
          have hO2 := HOi.out
          rw [M.part2_end] at hO2
          have HO2 := Lib.hid hO2
          clear hO2
          go_wp2
          go_roundw
          case rel => exact ⟨k + 1, by omega, by go_num, HO2.out, HBi.out⟩
          case measure => simp [intOf]; omega
    · obtain rfl : k = L := by omega
      go_wp2
      go_ret
      exact ⟨_, _, rfl, by rw [← M.part_end]; exact HO.out, HB.out⟩

set_option maxRecDepth 100000 in
set_option maxHeartbeats 4000000 in
theorem sTurn (a : Option Addr) (n cap L : Nat) (R : List (List Int)) (w : World) (h : Mat w a n R) (hr : Rect R n L) (n1 : 1 ≤ n) (n2 : n ≤ 10) (l1 : 1 ≤ L) (l2 : L ≤ 10) :
    Calls Tryz.prog 32 #[.slice a n cap] w (MPost L (M.mk L n (fun i j => M.ent R j i)) w) := by
  have HA := Lib.hid h
  have HR := Lib.hid hr
  obtain ⟨b, off, ra, rc, rfl, hbw, hc⟩ := h.rect_first hr (by omega)
  clear h hr
  go_enter Tryz.func32, Tryz.ntmps32
  go_wp2_with fail
  refine (sBottom L n _ (by omega) (by omega)).mono ?_
  rintro e w1 ⟨a2, cap2, rfl, ho, hb⟩
  have HO0 : Hid (OwnM w1 w.heap.size (.slice a2 L cap2) (M.mk L n (fun i j => if j < 0 then M.ent R j i else -1000000000000000))) :=
    (congrArg (OwnM _ _ _) (M.mk_congr fun i _ j _ => by rw [if_neg (Nat.not_lt_zero j)])).mp ho
  have HB0 := Lib.hid hb
  clear ho hb hc
  go_wp2
  go_loopw [4] (fun i wr => ∃ k : Nat, k ≤ n ∧ i = .int .i64 k ∧ OwnM wr w.heap.size (.slice a2 L cap2) (M.mk L n (fun i j => if j < k then M.ent R j i else -1000000000000000)) ∧ Below w.heap.size w wr) (fun i _ => n - (intOf i).toNat)
  case atStart => exact ⟨0, Nat.zero_le _, rfl, HO0.out, HB0.out⟩
  case round =>
    obtain ⟨k, hk, rfl, hO, hb⟩ := hrel
    obtain ⟨wo, rfl⟩ : ∃ x, x = wr := ⟨_, rfl⟩
    have HO := Lib.hid hO
    have HB := Lib.hid hb
    clear hO hb HO0 HB0
    by_cases hlt : k < n
    · have hki : (k : Int) < (n : Int) := by omega
      have HO2 : Hid (OwnM wo w.heap.size (.slice a2 L cap2) (M.mk L n (fun i j => if j < k ∨ (j = k ∧ i < 0) then M.ent R j i else -1000000000000000))) :=
        (congrArg (OwnM _ _ _) (M.mk_congr fun i _ j _ => by
          by_cases e : j < k
          · rw [if_pos e, if_pos (.inl e)]
          · rw [if_neg e, if_neg (by omega)])).mp HO.out
      go_wp2
      go_loopw [5] (fun j wr => ∃ t : Nat, t ≤ L ∧ j = .int .i64 t ∧ OwnM wr w.heap.size (.slice a2 L cap2) (M.mk L n (fun i j => if j < k ∨ (j = k ∧ i < t) then M.ent R j i else -1000000000000000)) ∧ Below w.heap.size w wr) (fun j _ => L - (intOf j).toNat)
      case atStart => exact ⟨0, Nat.zero_le _, rfl, HO2.out, HB.out⟩
      case round =>
        obtain ⟨t, ht, rfl, hO, hb⟩ := hrel
        have HOi := Lib.hid hO
        have HBi := Lib.hid hb
        clear hO hb HO2 HB HO
        by_cases htl : t < L
        · have hti : (t : Int) < (L : Int) := by omega
          obtain ⟨g, q, L3, c3, x3, rfl, hg3, hq3, hL3, hx3, c31, c32, f31, ho3⟩ := HOi.out.at t k htl (by rw [M.mk_rowlen _ _ _ _ htl]; exact hlt)
          rw [M.mk_rowlen _ _ _ _ htl] at hL3
          subst hL3
          obtain ⟨d, od, rd, ro, c4, x4, hdd, hx4, c41, c42⟩ := (HA.out.below HBi.out).rect_ent HR.out k t hlt htl
          injection hdd with hdd
          injection hdd with e1 e2
          subst e1 e2
          have HN : Hid (OwnM (wr.setCell ⟨q, k, none⟩ (.int .i64 x4)) w.heap.size (.slice (some ⟨g, 0, none⟩) L cap2) (M.mk L L3 (fun i j => if j < k ∨ (j = k ∧ i < t + 1) then M.ent R j i else -1000000000000000))) := by
            refine (congrArg (OwnM _ _ _) ?_).mp (ho3 x4)
            rw [M.mk_set _ _ _ _ _ _ htl]
            refine M.mk_congr fun i _ j _ => ?_
            by_cases e : i = t
            · subst e
              rw [if_pos rfl]
              by_cases e2 : j = k
              · subst e2; rw [if_pos rfl, if_pos (.inr ⟨rfl, by omega⟩), hx4]
              · rw [if_neg e2]
                by_cases e3 : j < k
                · rw [if_pos (.inl e3), if_pos (.inl e3)]
                · rw [if_neg (by omega), if_neg (by omega)]
            · rw [if_neg e]
              by_cases e3 : j < k ∨ (j = k ∧ i < t)
              · rw [if_pos e3, if_pos (by omega)]
              · rw [if_neg e3, if_neg (by omega)]
          clear ho3 hx3 hx4
          go_wp2
          go_still_tail 13, (by kernel_rfl)
          change wpList _ _ _ _ _ wr.drew
          go_wp2
          first
            | exact ⟨⟨t + 1, by omega, by go_num, HN.out.keep (fun _ _ _ => rfl), HBi.out.drew.setCell hq3 _⟩, by simp [intOf]; omega⟩
            | (go_roundw
               case rel => exact ⟨t + 1, by omega, by go_num, HN.out.keep (fun _ _ _ => rfl), HBi.out.drew.setCell hq3 _⟩
               case measure => simp [intOf]; omega)
        · obtain rfl : t = L := by omega
          have HO2 : Hid (OwnM wr w.heap.size (.slice a2 t cap2) (M.mk t n (fun i j => if j < k + 1 then M.ent R j i else -1000000000000000))) :=
            (congrArg (OwnM _ _ _) (M.mk_congr fun i hi j _ => by
              by_cases e : j < k + 1
              · rw [if_pos e, if_pos (by omega)]
              · rw [if_neg e, if_neg (by omega)])).mp HOi.out
          obtain ⟨d, od, rd, rcd, hdd, -, hcd, -⟩ := (HA.out.below HBi.out).rect_at HR.out k hlt
          injection hdd with hdd
          injection hdd with e1 e2
          subst e1 e2
          go_wp2
          go_roundw
          case rel => exact ⟨k + 1, by omega, by go_num, HO2.out, HBi.out⟩
          case measure => simp [intOf]; omega
    · obtain rfl : k = n := by omega
      go_wp2
      go_ret
      exact ⟨_, _, rfl, (congrArg (OwnM _ _ _) (M.mk_congr fun i _ j hj => by rw [if_pos hj])).mp HO.out, HB.out⟩

end Go.Proofs.YtcofjjipjcekjaaGreat.V

namespace Go.Proofs.YtcofjjipjcekjaaGreat.V
open Go.RowKit

/-- A new vector and a code. -/
def VRes (r : List Int × Int) (w : World) (e : Ending) (w' : World) : Prop :=
  ∃ a n cap, e = .returned (.tuple #[.slice a n cap, .int .i64 r.2]) ∧ Own w' w.heap.size (.slice a n cap) r.1 ∧ Below w.heap.size w w'
theorem VRes.nil {r : List Int × Int} {c : Int} {w w' : World} (hr : r = ([], c)) (hb : Below w.heap.size w w') : VRes r w (.returned (.tuple #[.slice none 0 0, .int .i64 c])) w' := by
  subst hr
  exact ⟨none, 0, 0, rfl, own_nil _ _, hb⟩

theorem ints_vec {w : World} {a : Option Addr} {n : Nat} {l : List Int} (h : Ints .i64 w a n l) (hv : M.isVec l = true) : 1 ≤ n ∧ n ≤ 10 := by
  obtain ⟨h1, h2, -⟩ := M.isVec_t hv
  rw [h.1] at h1 h2
  exact ⟨h1, h2⟩
theorem isVector_b (a : Option Addr) (n cap : Nat) (l : List Int) (w : World) (b : Bool) (hb : M.isVec l = b) (h : Ints .i64 w a n l) :
    Calls Tryz.prog 27 #[.slice a n cap] w fun e w' => e = .returned (.bool b) ∧ w = w' := by
  subst hb
  exact isVector _ _ _ _ _ h
theorem checkedVector_t (a : Option Addr) (n cap : Nat) (l : List Int) (w : World) (hb : M.isVec l = true) (h : Ints .i64 w a n l) :
    Calls Tryz.prog 49 #[.slice a n cap] w fun e w' => e = .returned (.tuple #[.slice a n cap, .int .i64 0]) ∧ w = w' := by
  have HA := Lib.hid h
  have HB := Lib.hid hb
  clear h hb
  go_enter Tryz.func49, Tryz.ntmps49
  go_wp2_with (go_at_call 27; refine (isVector_b _ _ _ l _ true HB.out HA.out).mono ?_; rintro e w' ⟨rfl, rfl⟩)
  go_ret2
  exact ⟨rfl, rfl⟩
theorem checkedVector_f (a : Option Addr) (n cap : Nat) (l : List Int) (w : World) (hb : M.isVec l = false) (h : Ints .i64 w a n l) :
    Calls Tryz.prog 49 #[.slice a n cap] w fun e w' => e = .returned (.tuple #[.slice none 0 0, .int .i64 3]) ∧ w = w' := by
  have HA := Lib.hid h
  have HB := Lib.hid hb
  clear h hb
  go_enter Tryz.func49, Tryz.ntmps49
  go_wp2_with (go_at_call 27; refine (isVector_b _ _ _ l _ false HB.out HA.out).mono ?_; rintro e w' ⟨rfl, rfl⟩)
  go_ret2
  exact ⟨rfl, rfl⟩

theorem sVector_b (a : Option Addr) (n cap : Nat) (l : List Int) (w : World) (b : Bool) (hb : M.isVec l = b) (h : Ints .i64 w a n l) :
    Calls Tryz.prog 33 #[.slice a n cap] w fun e w' => e = .returned (.bool b) ∧ w = w' := by
  subst hb
  exact sVector _ _ _ _ _ h

/-- A matrix of one row that is not its own. -/
theorem mat_one (w : World) (a : Option Addr) (n cap : Nat) (l : List Int) (h : Ints .i64 w a n l) : Mat (w.alloc (.cells #[.slice a n cap] 26)) (some ⟨w.heap.size, 0, none⟩) 1 [l] := by
  refine ⟨rfl, by decide, .inr ⟨_, _, rfl, by simp, fun i hi => ?_⟩⟩
  obtain rfl : i = 0 := by omega
  have hc := cell_one_new w (.slice a n cap) 26 0 _ rfl
  refine ⟨a, cap, ?_, ?_⟩
  · show _ = some (Value.slice a l.length cap)
    rw [h.1]; exact hc
  · show Ints _ _ _ l.length l
    rw [h.1]; exact h.below (b_alloc w _)

/-- The first row of an owned matrix. -/
theorem OwnM.row0 {w : World} {B n cap : Nat} {a : Option Addr} {R : List (List Int)} (h : OwnM w B (.slice a n cap) R) (hn : 0 < n) :
    ∃ g ra rc, a = some ⟨g, 0, none⟩ ∧ w.cell? ⟨g, 0, none⟩ = some (.slice ra (R.getD 0 []).length rc) ∧ Own w B (.slice ra (R.getD 0 []).length rc) (R.getD 0 []) := by
  have hl := h.len
  obtain ⟨V, h1, h2, h3, h4, h5⟩ := h
  obtain ⟨a', c', hv, hc, hm, hg⟩ := own_form h2
  injection hv with e1 e2 e3
  subst e1 e2 e3
  obtain ⟨g, rfl, hB, hlt⟩ := hg (by omega)
  have hr := h3 0 (by omega)
  obtain ⟨ra, rc, hrv, _⟩ := own_form hr
  rw [hrv] at hr
  refine ⟨g, ra, rc, rfl, ?_, hr⟩
  rw [World.ownsRow.cellAt h2 0 (by omega), ← hrv]
  simp [show 0 < V.length by omega]

/-- The column of a vector. -/
def M.colM (l : List Int) (n : Nat) : List (List Int) := M.mk n 1 (fun i _ => l.getD i 0)
theorem M.colM_ok {l : List Int} {n : Nat} (hv : M.isVec l = true) (hl : l.length = n) : M.isMat (M.colM l n) = true := by
  obtain ⟨h1, h2, h3⟩ := M.isVec_t hv
  exact M.isMat_mk (by omega) (by omega) (Nat.le_refl _) (by omega) (fun i hi _ _ => h3 i (by omega))
theorem M.dot_col {R : List (List Int)} {l : List Int} {n i k : Nat} (hk : k ≤ n) : M.dot R (M.colM l n) i 0 k = M.dotV R l i k := by
  unfold M.dot M.dotV
  refine M.sumN_congr fun t ht => ?_
  rw [M.colM, M.ent_mk _ _ _ _ _ (by omega) (by omega)]

set_option maxRecDepth 100000 in
set_option maxHeartbeats 4000000 in
theorem timesColumn (a : Option Addr) (n cap : Nat) (R : List (List Int)) (a' : Option Addr) (N cap' : Nat) (l : List Int) (w : World) (h : Mat w a n R) (h' : Ints .i64 w a' N l) (hr : Rect R n N) (hR : ∀ i k, i < n → k < N → M.Big (M.ent R i k)) (hl : ∀ k, k < N → M.Big (l.getD k 0)) (m1 : 1 ≤ n) (m2 : n ≤ 10) (c1 : 1 ≤ N) (c2 : N ≤ 10) :
    Calls Tryz.prog 78 #[.slice a n cap, .slice a' N cap'] w fun e w' => ∃ b c, e = .returned (.slice b n c) ∧ Own w' w.heap.size (.slice b n c) (M.applyM R l) ∧ Below w.heap.size w w' := by
  have HA := Lib.hid h
  have HI := Lib.hid h'
  have HR := Lib.hid hR
  have HT := Lib.hid hr
  have HC : Hid (∀ i k, i < N → k < 1 → M.Big (M.ent (M.colM l N) i k)) := fun i k hi hk => by
    unfold M.colM
    rw [M.ent_mk _ _ _ _ _ hi hk]; exact hl i hi
  have HCT : Hid (Rect (M.colM l N) N 1) := rect_mk _ _ _
  have H1T : Hid (Rect [l] 1 N) := ⟨rfl, fun i hi => by obtain rfl : i = 0 := by omega
                                                        exact h'.1⟩
  have HE1 : Hid (M.mk N 1 (fun i j => M.ent [l] j i) = M.colM l N) := by
    show _ = _
    unfold M.colM
    exact M.mk_congr fun i _ j hj => by obtain rfl : j = 0 := by omega
                                        rfl
  have HE2 : Hid ((M.mk 1 n (fun i j => M.ent (M.mk n 1 (fun i j => M.dot R (M.colM l N) i j N)) j i)).getD 0 [] = M.applyM R l) := by
    show _ = _
    rw [M.mk_row _ _ _ _ (by omega)]
    unfold M.applyM
    rw [h.1]
    refine List.map_congr_left fun j hj => ?_
    rw [M.ent_mk _ _ _ _ _ (List.mem_range.1 hj) (by omega), M.dot_col (Nat.le_refl _), h'.1]
  have HAL : Hid ((M.applyM R l).length = n) := by show _ = _; unfold M.applyM; simp [h.1]
  clear h h' hR hl hr
  go_enter Tryz.func78, Tryz.ntmps78
  go_wp2_with fail
  refine (transposed _ _ _ N [l] _ (mat_one w _ _ _ l HI.out) H1T.out (by omega) (by omega) c1 c2).mono ?_
  rintro e w1 ⟨a1, cap1, rfl, ho1, hb1⟩
  rw [HE1.out] at ho1
  have HB1 := Lib.hid (bel1 hb1)
  have HO1 := Lib.hid ho1
  clear ho1 hb1
  go_wp2_with fail
  refine (maxPlus _).mono ?_
  rintro e w2 ⟨rfl, hb2⟩
  have HB2 := Lib.hid (bnext HB1.out hb2)
  have HO2 := Lib.hid (HO1.out.below hb2)
  clear hb2
  go_wp2_with fail
  refine (multipliedB _ _ _ N R _ _ 1 (M.colM l N) _ (HA.out.below HB2.out) HO2.out.mat HT.out HCT.out HR.out HC.out m1 m2 c1 c2 (by omega) (by omega)).mono ?_
  rintro e w3 ⟨a3, cap3, rfl, ho3, hb3⟩
  have HB3 := Lib.hid (bnext HB2.out hb3)
  have HO3 := Lib.hid ho3
  clear ho3 hb3
  go_wp2_with fail
  refine (transposed _ _ _ 1 _ _ HO3.out.mat (rect_mk _ _ _) m1 m2 (by omega) (by omega)).mono ?_
  rintro e w4 ⟨a4, cap4, rfl, ho4, hb4⟩
  have HB4 := Lib.hid (bnext HB3.out hb4)
  obtain ⟨g, rr, rrc, rfl, hcr, hor⟩ := ho4.row0 (by omega)
  rw [HE2.out, HAL.out] at hcr hor
  have HOR := Lib.hid (hor.mono (show w.heap.size ≤ w3.heap.size from HB3.out.size))
  clear ho4 hb4 hor
  go_wp2
  go_ret
  exact ⟨_, _, rfl, HOR.out, HB4.out⟩



set_option maxRecDepth 100000 in
set_option maxHeartbeats 4000000 in
theorem sApplyB (a : Option Addr) (n cap : Nat) (R : List (List Int)) (a' : Option Addr) (N cap' : Nat) (l : List Int) (w : World) (h : Mat w a n R) (h' : Ints .i64 w a' N l) (hr : Rect R n N) (hR : ∀ i k, i < n → k < N → M.Big (M.ent R i k)) (hl : ∀ k, k < N → M.Big (l.getD k 0)) (n2 : n ≤ 10) (N1 : 1 ≤ N) (N2 : N ≤ 10) :
    Calls Tryz.prog 80 #[.slice a n cap, .slice a' N cap'] w fun e w' => ∃ b c, e = .returned (.slice b n c) ∧ Own w' w.heap.size (.slice b n c) (M.applyM R l) ∧ Below w.heap.size w w' := by
  have HA := Lib.hid h
  have HI := Lib.hid h'
  have HT := Lib.hid hr
  have HL := Lib.hid h.1
  have HV := Lib.hid hR
  have HV' := Lib.hid hl
  have HF : Hid (M.applyM R l = (List.range n).map fun i => M.dotV R l i N) := by show _ = _; unfold M.applyM; rw [h.1, h'.1]
  have hO0 : Hid (Own (w.alloc (.cells #[] 2)) w.heap.size (.slice (some ⟨w.heap.size, 0, none⟩) 0 0) []) := own_lit0 w _ (Nat.le_refl _)
  obtain ⟨rb, ro, x0, rfl, -, -, -⟩ := h'.at 0 (by omega)
  clear h h' hr hR hl
  go_enter Tryz.func80, Tryz.ntmps80
  go_wp2
  go_loopw [5, 6] (fun out i wr => ∃ (k : Nat) (b : Option Addr) (c : Nat), k ≤ n ∧ i = .int .i64 k ∧ out = .slice b k c ∧ Own wr w.heap.size (.slice b k c) ((List.range k).map fun i => M.dotV R l i N) ∧ Below w.heap.size w wr) (fun _ i _ => n - (intOf i).toNat)
  case atStart => exact ⟨0, _, _, Nat.zero_le _, rfl, rfl, hO0.out, b_alloc _ _⟩
  case round =>
    obtain ⟨k, b, c, hk, rfl, rfl, hO, hb⟩ := hrel
    obtain ⟨wo, rfl⟩ : ∃ x, x = wr := ⟨_, rfl⟩
    have HO := Lib.hid hO
    have HB := Lib.hid hb
    clear hO hb hO0
    by_cases hlt : k < n
    · have hki : (k : Int) < (n : Int) := by omega
      have HS0 : Hid ((-1000000000000000 : Int) = M.dotV R l k 0) := rfl
      go_wp2
      go_loopw [7, 8] (fun sm j wr => ∃ (u : Nat) (y : Int), u ≤ N ∧ j = .int .i64 u ∧ sm = .int .i64 y ∧ Hid (y = M.dotV R l k u) ∧ ∃ q, wr = wo.drewN q) (fun _ j _ => N - (intOf j).toNat)
      case atStart => exact ⟨0, _, Nat.zero_le _, rfl, rfl, HS0, 0, rfl⟩
      case round =>
        obtain ⟨u, y, hu, rfl, rfl, HY, q2, rfl⟩ := hrel
        by_cases hul : u < N
        · have hui : (u : Int) < (N : Int) := by omega
          obtain ⟨d, od, rd, rdo, c4, x1, rfl, hx1, c41, c42⟩ := (HA.out.below HB.out).rect_ent HT.out k u hlt hul
          obtain ⟨rx, rxo, x2, hrr, -, hx2, hcx2⟩ := (HI.out.below HB.out).at u hul
          injection hrr with hrr
          injection hrr with e1 e2
          subst e1 e2
          have HV1 : Hid (M.Big x1) := by show M.Big _; rw [hx1]; exact HV.out k u hlt hul
          have HV2 : Hid (M.Big x2) := by show M.Big _; rw [hx2]; exact HV'.out u hul
          obtain ⟨z, hz⟩ : ∃ z, z = M.times x1 x2 := ⟨_, rfl⟩
          have HY2 : Hid ((if y < z then z else y) = M.dotV R l k (u + 1)) := by show _ = _; rw [← M.ifmax, hz, HY.out, hx1, hx2]; rfl
          have HC1 : ∀ w : World, Calls Tryz.prog 72 #[.int .i64 x1, .int .i64 x2] w fun e w' => e = .returned (.int .i64 z) ∧ w = w' := by
            intro w
            rw [hz]
            exact sTimesB _ _ _ HV1.out HV2.out
          clear hx1 hx2 hz
          go_wp2
          go_quiet ((go_at_call 72; exact q_more_s (HC1 _)))
          go_wp2
          go_roundw
          case rel => exact ⟨u + 1, _, by omega, by go_num, rfl, HY2, _, rfl⟩
          case measure => simp [intOf]; omega
        · obtain rfl : u = N := by omega
          have HOq : Hid (Own (wo.drewN q2) w.heap.size (.slice b k c) ((List.range k).map fun i => M.dotV R l i u)) := HO.out
          have HBq : Hid (Below w.heap.size w (wo.drewN q2)) := below_drewN HB.out _
          have hsz : w.heap.size ≤ (wo.drewN q2).heap.size := HBq.out.size
          have hlen := HO.out.len
          have HLn := Lib.hid hlen
          clear hlen
          generalize wo.drewN q2 = wq at HOq HBq hsz
          go_wp2_with (at_builtin; refine append1 _ rfl (.tmp 36) (.tmp 38) rfl w.heap.size _ _ _ k HOq.out.len.symm rfl HOq.out rfl (by rw [← HLn.out]; omega) hsz ?_)
          intro b2 c2 w2 hO2 hb2 _
          have HO2 := Lib.hid hO2
          have HB2 := Lib.hid (HBq.out.trans hb2)
          clear hO2 hb2
          go_wp2
          go_roundw
          case rel => exact ⟨k + 1, _, _, by omega, by go_num, rfl, by rw [M.range_snoc, ← HY.out]; exact HO2.out, HB2.out⟩
          case measure => simp [intOf]; omega
    · obtain rfl : k = n := by omega
      go_wp2
      go_ret
      exact ⟨_, _, rfl, by rw [HF.out]; exact HO.out, HB.out⟩

theorem sApply (a : Option Addr) (n cap : Nat) (R : List (List Int)) (a' : Option Addr) (N cap' : Nat) (l : List Int) (w : World) (h : Mat w a n R) (h' : Ints .i64 w a' N l) (hr : Rect R n N) (hR : M.isMat R = true) (hl : M.isVec l = true) (n2 : n ≤ 10) (N1 : 1 ≤ N) (N2 : N ≤ 10) :
    Calls Tryz.prog 80 #[.slice a n cap, .slice a' N cap'] w fun e w' => ∃ b c, e = .returned (.slice b n c) ∧ Own w' w.heap.size (.slice b n c) (M.applyM R l) ∧ Below w.heap.size w w' :=
  if hn : 0 < n then sApplyB a n cap R a' N cap' l w h h' hr (fun i k hi hk => M.big_val (tm_val hR hr hn hi hk)) (fun k hk => M.big_val ((M.isVec_t hl).2.2 k (by rw [h'.1]; exact hk))) n2 N1 N2
  else sApplyB a n cap R a' N cap' l w h h' hr (fun i k hi hk => absurd (Nat.lt_of_le_of_lt (Nat.zero_le _) hi) hn) (fun k hk => M.big_val ((M.isVec_t hl).2.2 k (by rw [h'.1]; exact hk))) n2 N1 N2


end Go.Proofs.YtcofjjipjcekjaaGreat.V
