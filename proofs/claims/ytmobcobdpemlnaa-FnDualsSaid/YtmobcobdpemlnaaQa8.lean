/- Texts laid together: IMul, Pth2, Clo1, Clo2, Rat, Sh2, ShX. -/
import Derived.Test.YtmobcobdpemlnaaRows
import Derived.Test.YtmobcobdpemlnaaQa1
import Derived.Test.YtmobcobdpemlnaaQa2
import Derived.WalkKit
import Derived.ProofKit
import Derived.WalkSmall
import Derived.Deep.QuietTactic
import Derived.BigQuiet
import Derived.BigRegion
import Derived.Deep.Draws
import Derived.Lib.Hide
import Derived.OpenShut
import Derived.Deep.OwnRows
import Derived.Test.YtmobcobdpemlnaaQa6
import Derived.Test.YtmobcobdpemlnaaQa7
import Derived.StillTailTactics
import Derived.IntWalk
import Derived.Lib.SliceRun
import Derived.Test.YtmobcobdpemlnaaQa5
set_option linter.unusedSimpArgs false
set_option linter.unusedVariables false
set_option linter.unusedSectionVars false
namespace Go.Proofs.Ytmobcobdpemlnaa.V
open Go.RowKit

set_option maxRecDepth 100000 in
set_option maxHeartbeats 400000 in
theorem timesB (a b : Int) (w : World) (ha : M.Big a) (hb : M.Big b) : Calls Try.prog 129 #[.int .i64 a, .int .i64 b] w fun e w' => e = .returned (.int .i64 (M.times a b)) ∧ w = w' := by
  have ba := M.big_bound ha
  have bb := M.big_bound hb
  clear ha hb
  obtain ⟨ba1, ba2⟩ := ba
  obtain ⟨bb1, bb2⟩ := bb
  by_cases h : a = -1000000000000000
  · subst h
    go_enter Try.func129, Try.ntmps129
    go_wp2
    all_goals go_ret; exact ⟨retI (by simp [M.times]), rfl⟩
  · have h' : (a == -1000000000000000) = false := by simpa using h
    by_cases h2 : b = -1000000000000000
    · subst h2
      go_enter Try.func129, Try.ntmps129
      go_wp2
      all_goals go_ret; exact ⟨retI (by simp [M.times]), rfl⟩
    · have h2' : (b == -1000000000000000) = false := by simpa using h2
      go_enter Try.func129, Try.ntmps129
      go_wp2
      all_goals go_ret; exact ⟨retI (by simp [M.times, h, h2]), rfl⟩

set_option maxRecDepth 100000 in
set_option maxHeartbeats 400000 in
theorem clTimes (a b : Int) (w : World) (ha : M.Big a) (hb : M.Big b) : Calls Try.prog 128 #[.int .i64 a, .int .i64 b] w fun e w' => e = .returned (.int .i64 (M.times a b)) ∧ w = w' := by
  have HA := Lib.hid ha
  have HB := Lib.hid hb
  clear ha hb
  go_enter Try.func128, Try.ntmps128
  go_wp2_with (first | (go_at_call 129; refine (timesB _ _ _ HA.out HB.out).mono ?_; rintro e w' ⟨rfl, rfl⟩))
  go_ret
  exact ⟨rfl, rfl⟩

theorem dot_one {R R' : List (List Int)} {i j : Nat} (h : M.Big (M.ent R i 0)) (h' : M.Big (M.ent R' 0 j)) : M.dot R R' i j 1 = M.times (M.ent R i 0) (M.ent R' 0 j) :=
  M.sumN_one (M.big_times_ge h h')

set_option maxRecDepth 100000 in
set_option maxHeartbeats 4000000 in
theorem multipliedB (a : Option Addr) (n cap N : Nat) (R : List (List Int)) (a' : Option Addr) (cap' L : Nat) (R' : List (List Int)) (w : World) (h : Mat w a n R) (h' : Mat w a' N R') (hr : Rect R n N) (hr' : Rect R' N L)
    (hR : ∀ i k, i < n → k < N → M.Big (M.ent R i k)) (hR' : ∀ k j, k < N → j < L → M.Big (M.ent R' k j)) (n1 : 1 ≤ n) (n2 : n ≤ 10) (N1 : 1 ≤ N) (N2 : N ≤ 10) (l1 : 1 ≤ L) (l2 : L ≤ 10) :
    Calls Try.prog 119 #[.slice a n cap, .slice a' N cap', .agg #[.func (.func 126) #[] #[], .func (.func 128) #[] #[]]] w (MPost n (M.mk n L (fun i j => M.dot R R' i j N)) w) := by
  obtain ⟨wb, hwb⟩ : ∃ wb, wb = w.alloc (.cells #[.func (.func 126) #[] #[], .func (.func 128) #[] #[]] 107) := ⟨_, rfl⟩
  have hsb : wb.heap.size = w.heap.size + 1 := by rw [hwb]; simp
  have hbw : Below w.heap.size w wb := by rw [hwb]; exact b_alloc _ _
  have k0 : wb.cell? ⟨w.heap.size, 0, none⟩ = some (.func (.func 126) #[] #[]) := by rw [hwb]; simp [go_sem]
  have k1 : wb.cell? ⟨w.heap.size, 1, none⟩ = some (.func (.func 128) #[] #[]) := by rw [hwb]; simp [go_sem]
  have HA := Lib.hid (h.below hbw)
  have HA' := Lib.hid (h'.below hbw)
  have HR := Lib.hid hr
  have HR' := Lib.hid hr'
  have HV := Lib.hid hR
  have HV' := Lib.hid hR'
  have HK0 := Lib.hid k0
  have HK1 := Lib.hid k1
  have HBW := Lib.hid hbw
  have HSB := Lib.hid hsb
  have HWB := Lib.hid hwb
  obtain ⟨b, off, -, -, rfl, -, -⟩ := h.rect_first hr (by omega)
  obtain ⟨b', off', -, -, rfl, -, -⟩ := h'.rect_first hr' (by omega)
  have hmk := run_make_row' (P := Try.prog) 24 26 (.slice none 0 0) 24 Try.underlying24 infoS64 rfl .i64 .i64 n (by omega) (by omega)
  have hmk2 := run_make_row' (P := Try.prog) 26 2 (.int .i64 0) 8 Try.underlying26 info64 rfl .i64 .i64 L (by omega) (by omega)
  have hO0 : Hid (OwnM (wb.alloc (.cells (madeCells #[.slice none 0 0] n) 26)) wb.heap.size (.slice (some ⟨wb.heap.size, 0, none⟩) n n) (M.part n L (fun i j => M.dot R R' i j N) 0)) := by
    rw [M.part_zero]; exact ownM_made wb _ n (Nat.le_refl _) (by unfold maxLen; omega)
  have HB0 : Hid (Below wb.heap.size wb (wb.alloc (.cells (madeCells #[.slice none 0 0] n) 26))) := b_alloc wb _
  clear h h' hr hr' hR hR' hwb hsb hbw k0 k1
  go_enter Try.func119, Try.ntmps119
  go_wp2
  go_loopw [18] (fun i wr => ∃ k : Nat, k ≤ n ∧ i = .int .i64 k ∧ OwnM wr (w.heap.size + 1) (.slice (some ⟨w.heap.size + 1, 0, none⟩) n n) (M.part n L (fun i j => M.dot R R' i j N) k) ∧ Below (w.heap.size + 1) wb wr) (fun i _ => n - (intOf i).toNat)
  case atStart =>
    refine ⟨0, Nat.zero_le _, rfl, ?_, ?_⟩
    · have := hO0.out
      rw [HSB.out, HWB.out] at this
      exact this
    · have := HB0.out
      rw [HSB.out] at this
      rw [HWB.out] at this ⊢
      exact this
  case round =>
    obtain ⟨k, hk, rfl, hO, hb⟩ := hrel
    obtain ⟨wo, rfl⟩ : ∃ x, x = wr := ⟨_, rfl⟩
    have HO := Lib.hid hO
    have HB := Lib.hid hb
    clear hO hb hO0 HB0
    by_cases hlt : k < n
    · have hki : (k : Int) < (n : Int) := by omega
      have hg := HO.out.lt rfl
      have hsz : w.heap.size + 1 ≤ wo.heap.size := by have := HB.out.size; have := HSB.out; omega
      have HBx : Hid (Below wb.heap.size wb wo) := by show Below _ _ _; rw [HSB.out]; exact HB.out
      obtain ⟨d, od, rr, rcr, hdd, hbr, hcr0, hIr⟩ := HA.out.rect_at HR.out k hlt
      injection hdd with hdd
      injection hdd with e1 e2
      subst e1 e2
      have hcr : wo.cell? ⟨b, off + k, none⟩ = some (.slice rr N rcr) := by rw [HBx.out.cell (p := ⟨b, off + k, none⟩) hbr]; exact hcr0
      have HIR := Lib.hid hIr
      obtain ⟨rrb, rro, x0, rfl, -, hx0, hcx⟩ := hIr.at 0 (by omega)
      obtain ⟨d, od, rf, rcf, hdd, -, hcf⟩ := (HA'.out.below HBx.out).rect_first HR'.out (by omega)
      injection hdd with hdd
      injection hdd with e1 e2
      subst e1 e2
      obtain ⟨v0, hv0⟩ := HO.out.outer k hlt
      have hfz0 := HO.out.outerFz k
      have hO2 := HO.out.setRow (b_alloc wo (.cells (madeCells #[.int .i64 0] L) 2)) hsz (own_made wo wo.heap.size L (Nat.le_refl _) (by unfold maxLen; omega)) k hlt
      rw [M.part_set] at hO2
      rw [World.setCell_alloc_past _ _ _ _ hg] at hO2
      have HO2 := Lib.hid hO2
      have hB2 := (((HB.out.alloc hsz (.cells (madeCells #[.int .i64 0] L) 2))).setCell (p := ⟨w.heap.size + 1, k, none⟩) (Nat.le_refl _) (.slice (some ⟨wo.heap.size, 0, none⟩) L L))
      rw [World.setCell_alloc_past _ _ _ _ hg] at hB2
      have HB2 := Lib.hid hB2
      clear hO2 hB2 hIr hx0 hcx hcr0
      go_wp2
      clear hv0 hfz0 hg hcf hcr
      go_loopw [36] (fun j wr => ∃ t : Nat, t ≤ L ∧ j = .int .i64 t ∧ OwnM wr (w.heap.size + 1) (.slice (some ⟨w.heap.size + 1, 0, none⟩) n n) (M.part2 n L (fun i j => M.dot R R' i j N) k t) ∧ Below (w.heap.size + 1) wb wr) (fun j _ => L - (intOf j).toNat)
      case atStart => exact ⟨0, Nat.zero_le _, rfl, HO2.out, HB2.out⟩
      case round =>
        obtain ⟨t, ht, rfl, hO, hb⟩ := hrel
        obtain ⟨wp, rfl⟩ : ∃ x, x = wr := ⟨_, rfl⟩
        have HOi := Lib.hid hO
        have HBi := Lib.hid hb
        clear hO hb HO2 HB2 HO
        by_cases htl : t < L
        · have hti : (t : Int) < (L : Int) := by omega
          have HBy : Hid (Below wb.heap.size wb wp) := by show Below _ _ _; rw [HSB.out]; exact HBi.out
          have q0 : wp.cell? ⟨w.heap.size, 0, none⟩ = some (.func (.func 126) #[] #[]) := by rw [HBi.out.cell (p := ⟨w.heap.size, 0, none⟩) (Nat.lt_succ_self _)]; exact HK0.out
          have q1 : wp.cell? ⟨w.heap.size, 1, none⟩ = some (.func (.func 128) #[] #[]) := by rw [HBi.out.cell (p := ⟨w.heap.size, 1, none⟩) (Nat.lt_succ_self _)]; exact HK1.out
          obtain ⟨rx, ro, x1, hrr, -, hx1, hcx1⟩ := (HIR.out.below HBy.out).at 0 (by omega)
          injection hrr with hrr
          injection hrr with e1 e2
          subst e1 e2
          rw [Nat.add_zero] at hcx1
          obtain ⟨d, od, rd, rdo, c4, x2, hdd, hx2, c41, c42⟩ := (HA'.out.below HBy.out).rect_ent HR'.out 0 t (by omega) htl
          injection hdd with hdd
          injection hdd with e1 e2
          subst e1 e2
          rw [Nat.add_zero] at c41
          have hx1' : x1 = M.ent R k 0 := hx1
          have HV1 : Hid (M.Big x1) := by show M.Big _; rw [hx1']; exact HV.out k 0 hlt (by omega)
          have HV2 : Hid (M.Big x2) := by show M.Big _; rw [hx2]; exact HV'.out 0 t (by omega) htl
          obtain ⟨s1, hs1⟩ : ∃ s1, s1 = M.dot R R' k t 1 := ⟨_, rfl⟩
          have HS1 := Lib.hid hs1
          have HC1 : ∀ w : World, Calls Try.prog 128 #[.int .i64 x1, .int .i64 x2] w fun e w' => e = .returned (.int .i64 s1) ∧ w = w' := by
            intro w
            rw [hs1, dot_one (HV.out k 0 hlt (by omega)) (HV'.out 0 t (by omega) htl), ← hx1', ← hx2]
            exact clTimes _ _ _ HV1.out HV2.out
          obtain ⟨g, q, L3, c3, x3, hgg, hg3, hq3, hL3, hx3, c31, c32, f31, ho3⟩ := HOi.out.at k t hlt (by rw [M.part2_rowlen _ _ _ _ _ hlt]; exact htl)
          injection hgg with hgg
          injection hgg with hgg
          subst hgg
          rw [M.part2_rowlen _ _ _ _ _ hlt] at hL3
          subst hL3
          have HN : Hid (OwnM (wp.setCell ⟨q, t, none⟩ (.int .i64 (M.dot R R' k t N))) (w.heap.size + 1) (.slice (some ⟨w.heap.size + 1, 0, none⟩) n n) (M.part2 n L3 (fun i j => M.dot R R' i j N) k (t + 1))) :=
            (congrArg (OwnM _ _ _) (M.part2_set _ _ (fun i j => M.dot R R' i j N) _ _ hlt)).mp (ho3 (M.dot R R' k t N))
          clear hs1 hx1 hx1' hx2 hx3 ho3
          go_wp2
          go_quiet ((go_at_call 128; exact q_one_s (HC1 _)))
          clear hcx1 c42 c41
          go_wp2
          go_loopw [11, 12] (fun sm l wr => ∃ u : Nat, 1 ≤ u ∧ u ≤ N ∧ l = .int .i64 u ∧ (∃ y, sm = .int .i64 y ∧ Hid (y = M.dot R R' k t u)) ∧ ∃ q, wr = wp.drewN q) (fun _ l _ => N - (intOf l).toNat)
          case atStart => exact ⟨1, Nat.le_refl _, N1, rfl, ⟨_, rfl, HS1⟩, _, rfl⟩
          case round =>
            obtain ⟨u, hu1, hu, rfl, ⟨y, rfl, HY⟩, q2, rfl⟩ := hrel
            by_cases hul : u < N
            · have hui : (u : Int) < (N : Int) := by omega
              obtain ⟨rx, ro, x1, hrr, -, hx1, hcx1⟩ := (HIR.out.below HBy.out).at u hul
              injection hrr with hrr
              injection hrr with e1 e2
              subst e1 e2
              obtain ⟨d, od, rd, rdo, c4, x2, hdd, hx2, c41, c42⟩ := (HA'.out.below HBy.out).rect_ent HR'.out u t hul htl
              injection hdd with hdd
              injection hdd with e1 e2
              subst e1 e2
              have hx1' : x1 = M.ent R k u := hx1
              have HV1 : Hid (M.Big x1) := by show M.Big _; rw [hx1']; exact HV.out k u hlt hul
              have HV2 : Hid (M.Big x2) := by show M.Big _; rw [hx2]; exact HV'.out u t hul htl
              obtain ⟨z, hz⟩ : ∃ z, z = M.times x1 x2 := ⟨_, rfl⟩
              obtain ⟨y2, hy2⟩ : ∃ y2, y2 = max y z := ⟨_, rfl⟩
              have HY2 : Hid (y2 = M.dot R R' k t (u + 1)) := by show _ = _; rw [hy2, hz, HY.out, hx1', hx2]; rfl
              have HC1 : ∀ w : World, Calls Try.prog 128 #[.int .i64 x1, .int .i64 x2] w fun e w' => e = .returned (.int .i64 z) ∧ w = w' := by
                intro w
                rw [hz]
                exact clTimes _ _ _ HV1.out HV2.out
              have HC2 : ∀ w : World, Calls Try.prog 126 #[.int .i64 y, .int .i64 z] w fun e w' => e = .returned (.int .i64 y2) ∧ w = w' := by
                intro w
                rw [hy2]
                exact clPlus _ _ _
              clear hx1 hx1' hx2 hz hy2
              go_wp2
              go_quiet (first | (go_at_call 128; exact q_more_s (HC1 _)) | (go_at_call 126; exact q_more_s (HC2 _)))
              go_wp2
              go_roundw
              case rel => exact ⟨u + 1, by omega, by omega, by go_num, ⟨_, rfl, HY2⟩, _, rfl⟩
              case measure => simp [intOf]; omega
            · obtain rfl : u = N := by omega
              go_wp2
              exact ⟨⟨t + 1, by omega, by go_num, by rw [HY.out]; exact HN.out.keep (fun _ _ _ => rfl), (below_drewN HBi.out _).setCell hq3 _⟩, by simp [intOf]; omega⟩
        · obtain rfl : t = L := by omega
          have hO2 := HOi.out
          rw [M.part2_end] at hO2
          have HO2 := Lib.hid hO2
          clear hO2
          go_wp2
          go_roundw
          case rel => exact ⟨k + 1, by omega, by go_num, HO2.out, HBi.out⟩
          case measure => simp [intOf]; omega
    · obtain rfl : k = n := by omega
      go_wp2
      go_ret
      refine ⟨_, _, rfl, ?_, ?_⟩
      · rw [← M.part_end]; exact HO.out.mono (Nat.le_succ _)
      · exact HBW.out.trans (HB.out.mono (Nat.le_succ _))
theorem multiplied (a : Option Addr) (n cap N : Nat) (R : List (List Int)) (a' : Option Addr) (cap' L : Nat) (R' : List (List Int)) (w : World) (h : Mat w a n R) (h' : Mat w a' N R') (hr : Rect R n N) (hr' : Rect R' N L)
    (hR : M.isMat R = true) (hR' : M.isMat R' = true) (n1 : 1 ≤ n) (n2 : n ≤ 10) (N1 : 1 ≤ N) (N2 : N ≤ 10) (l1 : 1 ≤ L) (l2 : L ≤ 10) :
    Calls Try.prog 119 #[.slice a n cap, .slice a' N cap', .agg #[.func (.func 126) #[] #[], .func (.func 128) #[] #[]]] w (MPost n (M.mk n L (fun i j => M.dot R R' i j N)) w) :=
  multipliedB a n cap N R a' cap' L R' w h h' hr hr' (fun i k hi hk => M.big_val (tm_val hR hr (by omega) hi hk)) (fun k j hk hj => M.big_val (tm_val hR' hr' (by omega) hk hj)) n1 n2 N1 N2 l1 l2
end Go.Proofs.Ytmobcobdpemlnaa.V

namespace Go.Proofs.Ytmobcobdpemlnaa.V
open Go.RowKit

/-- A square matrix of values. -/
def Sq (w : World) (a : Option Addr) (n : Nat) (R : List (List Int)) : Prop := Mat w a n R ∧ Rect R n n ∧ (∀ i j, i < n → j < n → M.Sm 1000001000000 (M.ent R i j)) ∧ 1 ≤ n ∧ n ≤ 10
theorem sq_of {w : World} {a : Option Addr} {n : Nat} {R : List (List Int)} (h : Mat w a n R) (hs : M.sqB R = true) : Sq w a n R := by
  obtain ⟨h1, h2⟩ := M.sqB_t hs
  have hr := rect_mat h1
  obtain ⟨m1, m2, -⟩ := M.isMat_t h1
  rw [← h2, h.1] at hr
  rw [h.1] at m1 m2
  exact ⟨h, hr, fun i j hi hj => M.sm_wide (M.sm_val (tm_val h1 hr m1 hi hj)), m1, m2⟩
theorem Sq.below {w w' : World} {a : Option Addr} {n : Nat} {R : List (List Int)} (h : Sq w a n R) (hb : Below w.heap.size w w') : Sq w' a n R := ⟨h.1.below hb, h.2⟩
theorem Sq.arc {w : World} {a : Option Addr} {n : Nat} {R : List (List Int)} {l : List Int} (h : Sq w a n R) (hv : M.nodesB n l = true) {i j : Nat} (hi : i < l.length) (hj : j < l.length) : M.Sm 1000001000000 (M.ent R (M.vx l i) (M.vx l j)) :=
  h.2.2.1 _ _ (M.vx_lt hv hi) (M.vx_lt hv hj)
/-- The weights along a list of nodes are near to 0. -/
theorem Sq.along {w : World} {a : Option Addr} {n : Nat} {R : List (List Int)} {l : List Int} (h : Sq w a n R) (hv : M.nodesB n l = true) {t : Nat} (ht : t < l.length) : M.Sm (1000001000000 * t) (M.wkc (M.ent R) (M.vx l) t) :=
  M.wkc_sm fun u hu => h.arc hv (by omega) (by omega)
theorem wn_big {L v : Int} {t : Nat} (h : M.Sm (1000001000000 * t) v) (ht : t ≤ 99) : M.Big v := M.big_sm h (by omega)

set_option maxRecDepth 100000 in
set_option maxHeartbeats 1000000 in
theorem weightAlong (a : Option Addr) (n cap : Nat) (R : List (List Int)) (a' : Option Addr) (N cap' : Nat) (l : List Int) (w : World) (h : Sq w a n R) (h' : Ints .i64 w a' N l) (hv : M.nodesB n l = true) (hc1 : N ≤ cap') (hc2 : cap' ≤ maxLen) (N1 : 1 ≤ N) (N2 : N ≤ 100) :
    Calls Try.prog 145 #[.slice a n cap, .slice a' N cap'] w fun e w' => e = .returned (.int .i64 (M.alongW R l)) ∧ ∃ q, w' = w.drewN q := by
  unfold maxLen at hc2
  have HS := Lib.hid h
  have HI := Lib.hid h'
  have HV := Lib.hid hv
  have HL := Lib.hid h'.1
  obtain ⟨b', off', x0, rfl, -, -, -⟩ := h'.at 0 (by omega)
  obtain ⟨b, off, ra, rc, rfl, -, -⟩ := h.1.rect_first h.2.1 h.2.2.2.1
  obtain ⟨n1, n2⟩ := h.2.2.2
  clear h h' hv
  by_cases h1 : N = 1
  · subst h1
    have HE : Hid (M.alongW R l = 0) := by show _ = _; unfold M.alongW; rw [HL.out]; rfl
    by_cases hk : cap' = 1
    · subst hk
      go_enter Try.func145, Try.ntmps145
      go_wp2
      go_loop [5, 11] (fun sm i => sm = .int .i64 0 ∧ i = .int .i64 0) (fun _ _ => 0)
      case atStart => exact ⟨rfl, rfl⟩
      case round =>
        obtain ⟨rfl, rfl⟩ := hrel
        go_wp2
        go_ret
        exact ⟨retI HE.out.symm, 0, rfl⟩
    · have hk2 : (cap' : Nat) ≠ 1 := hk
      go_enter Try.func145, Try.ntmps145
      go_wp2
      go_loop [5, 11] (fun sm i => sm = .int .i64 0 ∧ i = .int .i64 0) (fun _ _ => 0)
      case atStart => exact ⟨rfl, rfl⟩
      case round =>
        obtain ⟨rfl, rfl⟩ := hrel
        go_wp2
        go_ret
        exact ⟨retI HE.out.symm, 0, rfl⟩
  · have hk : (cap' : Nat) ≠ 1 := by omega
    have hk1 : 1 ≤ cap' := by omega
    have HA0 : Hid ((0 : Int) = M.wkc (M.ent R) (M.vx l) 0) := rfl
    go_enter Try.func145, Try.ntmps145
    go_wp2
    go_loopw [5, 6, 7, 11] (fun sm _ _ i wr => ∃ (k : Nat) (y : Int), k ≤ N - 1 ∧ i = .int .i64 k ∧ sm = .int .i64 y ∧ Hid (y = M.wkc (M.ent R) (M.vx l) k) ∧ ∃ q, wr = w.drewN q) (fun _ _ _ i _ => N - (intOf i).toNat)
    case atStart => exact ⟨0, _, Nat.zero_le _, rfl, rfl, HA0, 0, rfl⟩
    case round =>
      obtain ⟨k, y, hk', rfl, rfl, HY, q2, rfl⟩ := hrel
      by_cases hlt : k + 1 < N
      · have hki : (k : Int) < (N : Int) - 1 := by omega
        obtain ⟨d, od, x1, hdd, hd, hx1, c1⟩ := HI.out.at k (by omega)
        injection hdd with hdd
        injection hdd with e1 e2
        subst e1 e2
        obtain ⟨d, od, x2, hdd, hd, hx2, c2⟩ := HI.out.at (k + 1) hlt
        injection hdd with hdd
        injection hdd with e1 e2
        subst e1 e2
        have hl := HL.out
        have hb1 := M.nodesB_at HV.out (k := k) (by omega)
        have hb2 := M.nodesB_at HV.out (k := k + 1) (by omega)
        have hv1 : x1 = ((M.vx l k : Nat) : Int) := by rw [hx1]; unfold M.vx; omega
        have hv2 : x2 = ((M.vx l (k + 1) : Nat) : Int) := by rw [hx2]; unfold M.vx; omega
        have hw1 := M.vx_lt HV.out (k := k) (by omega)
        have hw2 := M.vx_lt HV.out (k := k + 1) (by omega)
        obtain ⟨d, od, rd, rdo, c4, z, hdd, hz, c41, c42⟩ := HS.out.1.rect_ent HS.out.2.1 (M.vx l (k + 1)) (M.vx l k) hw2 hw1
        injection hdd with hdd
        injection hdd with e1 e2
        subst e1 e2
        have HY2 : Hid (M.times y z = M.wkc (M.ent R) (M.vx l) (k + 1)) := by show _ = _; rw [HY.out, hz]; rfl
        have HB1 : Hid (M.Big y) := by
          show M.Big _
          rw [HY.out]
          exact M.big_sm (HS.out.along HV.out (t := k) (by omega)) (by omega)
        have HB2 : Hid (M.Big z) := by
          show M.Big _
          rw [hz]
          exact M.big_sm (HS.out.arc HV.out (by omega) (by omega)) (by omega)
        generalize M.vx l k = u1 at hv1 hw1 c42
        generalize M.vx l (k + 1) = u2 at hv2 hw2 c41
        subst hv1 hv2
        obtain ⟨y2, hy2⟩ : ∃ y2, y2 = M.times y z := ⟨_, rfl⟩
        rw [← hy2] at HY2
        have HC1 : ∀ w : World, Calls Try.prog 129 #[.int .i64 y, .int .i64 z] w fun e w' => e = .returned (.int .i64 y2) ∧ w = w' := by
          intro w
          rw [hy2]
          exact timesB _ _ _ HB1.out HB2.out
        have c2' : w.cell? ⟨b', off' + 1 + k, none⟩ = some (.int .i64 (u2 : Int)) := by rw [show off' + 1 + k = off' + (k + 1) by omega]; exact c2
        clear hx1 hx2 hz hd hb1 hb2 hl hy2 c2
        go_wp2
        go_quiet ((go_at_call 129; exact q_more_s (HC1 _)))
        go_wp2
        go_roundw
        case rel => exact ⟨k + 1, _, by omega, by go_num, rfl, HY2, _, rfl⟩
        case measure => simp [intOf]; omega
      · obtain rfl : N = k + 1 := by omega
        go_wp2
        go_ret
        exact ⟨retI (by rw [HY.out]; unfold M.alongW; rw [HL.out]; rfl), _, rfl⟩

set_option maxRecDepth 100000 in
set_option maxHeartbeats 1000000 in
theorem weightAround (a : Option Addr) (n cap : Nat) (R : List (List Int)) (a' : Option Addr) (N cap' : Nat) (l : List Int) (w : World) (h : Sq w a n R) (h' : Ints .i64 w a' N l) (hv : M.nodesB n l = true) (hc1 : N ≤ cap') (hc2 : cap' ≤ maxLen) (N1 : 1 ≤ N) (N2 : N ≤ 100) :
    Calls Try.prog 142 #[.slice a n cap, .slice a' N cap'] w fun e w' => e = .returned (.int .i64 (M.aroundW R l)) ∧ ∃ q, w' = w.drewN q := by
  have HM := Lib.hid hc2
  have HS := Lib.hid h
  have HI := Lib.hid h'
  have HV := Lib.hid hv
  have HL := Lib.hid h'.1
  obtain ⟨b', off', x0, rfl, hd0, hx0, c0⟩ := h'.at 0 (by omega)
  obtain ⟨d, od, x1, hdd, hd1, hx1, c1⟩ := h'.at (N - 1) (by omega)
  injection hdd with hdd
  injection hdd with e1 e2
  subst e1 e2
  have hl := h'.1
  have hb1 := M.nodesB_at hv (k := 0) (by omega)
  have hb2 := M.nodesB_at hv (k := N - 1) (by omega)
  have hv1 : x0 = ((M.vx l 0 : Nat) : Int) := by rw [hx0]; unfold M.vx; omega
  have hv2 : x1 = ((M.vx l (N - 1) : Nat) : Int) := by rw [hx1]; unfold M.vx; omega
  have hw1 := M.vx_lt hv (k := 0) (by omega)
  have hw2 := M.vx_lt hv (k := N - 1) (by omega)
  obtain ⟨b, off, rd, rdo, c4, z, rfl, hz, c41, c42⟩ := h.1.rect_ent h.2.1 (M.vx l 0) (M.vx l (N - 1)) hw1 hw2
  obtain ⟨y, hy⟩ : ∃ y, y = M.alongW R l := ⟨_, rfl⟩
  have HY := Lib.hid hy
  obtain ⟨y2, hy2⟩ : ∃ y2, y2 = M.times y z := ⟨_, rfl⟩
  have HY2 : Hid (y2 = M.aroundW R l) := by show _ = _; rw [hy2, hy, hz, ← hl]; rfl
  have HB1 : Hid (M.Big y) := by
    show M.Big _
    rw [hy]; unfold M.alongW
    exact M.big_sm (h.along hv (t := l.length - 1) (by omega)) (by omega)
  have HB2 : Hid (M.Big z) := by
    show M.Big _
    rw [hz]
    exact M.big_sm (h.arc hv (by omega) (by omega)) (by omega)
  have HC1 : ∀ w : World, Calls Try.prog 129 #[.int .i64 y, .int .i64 z] w fun e w' => e = .returned (.int .i64 y2) ∧ w = w' := by
    intro w
    rw [hy2]
    exact timesB _ _ _ HB1.out HB2.out
  have HC2 : ∀ q, Calls Try.prog 145 #[.slice (some ⟨b, off, none⟩) n cap, .slice (some ⟨b', off', none⟩) N cap'] (w.drewN q) fun e w' => e = .returned (.int .i64 y) ∧ ∃ p, w' = (w.drewN q).drewN p := by
    intro q
    rw [HY.out]
    exact weightAlong _ _ _ _ _ _ _ _ _ (HS.out.below (b_draws _ _)) (HI.out.below (b_draws _ _)) HV.out hc1 HM.out N1 N2
  obtain ⟨n1, n2⟩ := h.2.2.2
  generalize M.vx l 0 = u1 at hv1 hw1 c41
  generalize M.vx l (N - 1) = u2 at hv2 hw2 c42
  subst hv1 hv2
  unfold maxLen at hc2
  have hn0 : ((N : Int) - 1).toNat = N - 1 := by omega
  have hn1 : 0 ≤ (N : Int) - 1 := by omega
  have hn2 : (N : Int) - 1 < N := by omega
  have hn3 : IntKind.i64.wrap ((N : Int) - 1) = (N : Int) - 1 := IntWalk.i64_in _ (by omega)
  clear h h' hv hl hb1 hb2 hx0 hx1 hz hd0 hd1 hy hy2
  rw [Nat.add_zero] at c0
  go_enter Try.func142, Try.ntmps142
  go_wp2
  go_quiet (fail)
  go_wp2
  go_quiet (first | (go_at_call 145; exact q_more (HC2 _)) | (go_at_call 129; exact q_more_s (HC1 _)))
  go_wp2
  go_ret
  exact ⟨retI HY2.out, _, World.drewN_drewN _ _ _⟩

end Go.Proofs.Ytmobcobdpemlnaa.V

namespace Go.Proofs.Ytmobcobdpemlnaa.V
open Go.RowKit

set_option maxRecDepth 100000 in
set_option maxHeartbeats 1000000 in
theorem clone (a : Option Addr) (n cap : Nat) (l : List Int) (w : World) (h : Ints .i64 w a n l) (h0 : 0 < n) (hn : n ≤ 1000) :
    Calls Try.prog 144 #[.slice a n cap] w fun e w' => ∃ b c, e = .returned (.slice b n c) ∧ Own w' w.heap.size (.slice b n c) l ∧ Below w.heap.size w w' := by
  obtain ⟨hl, hm, hr⟩ := h
  rcases hr with hr | ⟨b, off, rfl, hb, hc⟩
  · omega
  have HL := Lib.hid hl
  have HC := Lib.hid hc
  have HO : Hid (Own (w.alloc (.cells #[] 2)) w.heap.size (.slice (some ⟨w.heap.size, 0, none⟩) 0 0) []) := own_lit0 w _ (Nat.le_refl _)
  obtain ⟨i0, hi, hz0, hz1, hz2⟩ := info_parts info64
  clear hl hc hm
  have HI := Lib.hid hi
  clear hi
  have hnil := fun w : World => Lib.run_eql_slice_nil (P := Try.prog) w 26 2 (some (⟨b, off, none⟩ : Addr)) n cap 0 0 Try.underlying26
  go_enter Try.func144, Try.ntmps144
  go_wp2_with (at_builtin; refine wpList_append_own_at (w := w.alloc (.cells #[] 2)) rfl (.tmp 5) (.tmp 6) 26 rfl w.heap.size 2 i0 (.int .i64 0) 1 8 Try.underlying26 HI.out hz0 hz1 hz2 rfl (by decide) (.slice (some ⟨w.heap.size, 0, none⟩) 0 0) 0 [] rfl HO.out ⟨b, off, none⟩ n cap (l.map (Value.int .i64)) rfl ?c0 ?c1 ?c2 ?c3 ?c4 ?c5 ?_)
  case c0 => have := HL.out; simp [this]
  case c1 =>
    refine ints_cells (fun i hi' => ?_) HL.out
    rw [(b_alloc w _).cell (p := ⟨b, off + i, none⟩) hb]; exact HC.out i hi'
  case c2 => intro u hu; obtain ⟨x, _, rfl⟩ := List.mem_map.1 hu; rfl
  case c3 => unfold maxLen; omega
  case c4 => omega
  case c5 => simp
  intro v' w' ho hg hz hv
  have ho' : Own w' w.heap.size v' l := by
    show w'.ownsRow w.heap.size _ 1 v' l.length (l.map (Value.int .i64))
    rw [HL.out]
    simpa using ho
  obtain ⟨b', c', rfl, _⟩ := own_form ho'
  rw [HL.out] at ho' ⊢
  have HB : Hid (Below w.heap.size w w') := (b_alloc w _).grown hg (by simp) (fun k hk => by simp [Value.ownBlock] at hk; omega)
  have HO' := Lib.hid ho'
  clear ho ho' hg hz hv
  go_wp2
  go_ret
  exact ⟨_, _, rfl, HO'.out, HB.out⟩

set_option maxRecDepth 100000 in
set_option maxHeartbeats 1000000 in
theorem copiedMatrix (a : Option Addr) (n cap : Nat) (R : List (List Int)) (L : Nat) (w : World) (h : Mat w a n R) (hr : Rect R n L) (m1 : 1 ≤ n) (hm : n ≤ 10) (n1 : 1 ≤ L) (hn : L ≤ 10) :
    Calls Try.prog 137 #[.slice a n cap] w (MPost n R w) := by
  have HA := Lib.hid h
  have HR := Lib.hid hr
  obtain ⟨b, off, -, -, rfl, -, -⟩ := h.rect_first hr (by omega)
  have hmk := run_make_row' (P := Try.prog) 24 26 (.slice none 0 0) 24 Try.underlying24 infoS64 rfl .i64 .i64 n (by omega) (by omega)
  have hO0 : Hid (OwnM (w.alloc (.cells (madeCells #[.slice none 0 0] n) 26)) w.heap.size (.slice (some ⟨w.heap.size, 0, none⟩) n n) (List.replicate n [])) := ownM_made w _ n (Nat.le_refl _) (by unfold maxLen; omega)
  clear h hr
  go_enter Try.func137, Try.ntmps137
  go_wp2
  clear hmk
  go_loopw [4, 5, 11] (fun _ _ i wr => ∃ k : Nat, k ≤ n ∧ i = .int .i64 k ∧ OwnM wr w.heap.size (.slice (some ⟨w.heap.size, 0, none⟩) n n) ((List.range n).map fun j => if j < k then R.getD j [] else []) ∧ Below w.heap.size w wr) (fun _ _ i _ => n - (intOf i).toNat)
  case atStart =>
    refine ⟨0, Nat.zero_le _, rfl, (congrArg (OwnM _ _ _) ?_).mp hO0.out, b_alloc _ _⟩
    apply List.ext_getElem
    · simp
    · intro i h1 h2; simp
  case round =>
    obtain ⟨k, hk, rfl, hO, hb⟩ := hrel
    have HO := Lib.hid hO
    have HB := Lib.hid hb
    clear hO hb hO0
    by_cases hlt : k < n
    · have hki : (k : Int) < (n : Int) := by omega
      have hg := HO.out.lt rfl
      obtain ⟨d, od, rr, rcr, hdd, hbr, hcr, hIr⟩ := (HA.out.below HB.out).rect_at HR.out k hlt
      injection hdd with hdd
      injection hdd with e1 e2
      subst e1 e2
      have HIR := Lib.hid hIr
      clear hIr
      go_wp2_with fail
      refine (clone _ _ _ _ _ HIR.out (by omega) (by omega)).mono ?_
      rintro e w1 ⟨b1, c1, rfl, ho1, hb1⟩
      have hst : ∃ v, w1.cell? ⟨w.heap.size, k, none⟩ = some v := by
        obtain ⟨v, hv⟩ := HO.out.outer k hlt
        exact ⟨v, by rw [hb1.cell (p := ⟨w.heap.size, k, none⟩) hg]; exact hv⟩
      obtain ⟨v, hst⟩ := hst
      have hfz : w1.frozen? ⟨w.heap.size, k, none⟩ = false := by rw [hb1.frozen (p := ⟨w.heap.size, k, none⟩) hg]; exact HO.out.outerFz k
      have HN := Lib.hid (HO.out.setRow hb1 HB.out.size ho1 k hlt)
      have HB1 := Lib.hid (bnext HB.out hb1)
      clear ho1 hb1 hg
      go_wp2
      go_roundw
      case rel =>
        refine ⟨k + 1, by omega, by go_num, ?_, HB1.out.setCell (Nat.le_refl _) _⟩
        refine (congrArg (OwnM _ _ _) ?_).mp HN.out
        rw [M.map_set_rows]
        refine List.map_congr_left fun s _ => ?_
        by_cases e : s = k
        · subst e; rw [if_pos rfl, if_pos (by omega)]
        · rw [if_neg e]
          by_cases e2 : s < k
          · rw [if_pos e2, if_pos (by omega)]
          · rw [if_neg e2, if_neg (by omega)]
      case measure => simp [intOf]; omega
    · obtain rfl : k = n := by omega
      go_wp2
      go_ret
      refine ⟨_, _, rfl, (congrArg (OwnM _ _ _) ?_).mp HO.out, HB.out⟩
      have hl := HR.out.1
      apply List.ext_getElem
      · simp [hl]
      · intro i h1 h2
        simp at h1
        simp [h1, h2]

/-- Three entries of an owned square matrix, of which the first is written. -/
theorem OwnM.tri {w : World} {B n cap : Nat} {a : Option Addr} {R : List (List Int)} (h : OwnM w B (.slice a n cap) R) (hr : Rect R n n) (i j k : Nat) (hi : i < n) (hj : j < n) (hk : k < n) :
    ∃ g q c q' c', a = some ⟨g, 0, none⟩ ∧ B ≤ q ∧ w.cell? ⟨g, i, none⟩ = some (.slice (some ⟨q, 0, none⟩) n c) ∧ w.cell? ⟨q, j, none⟩ = some (.int .i64 (M.ent R i j)) ∧ w.cell? ⟨q, k, none⟩ = some (.int .i64 (M.ent R i k)) ∧
      w.cell? ⟨g, k, none⟩ = some (.slice (some ⟨q', 0, none⟩) n c') ∧ w.cell? ⟨q', j, none⟩ = some (.int .i64 (M.ent R k j)) ∧ w.frozen? ⟨q, j, none⟩ = false ∧
      ∀ y, OwnM (w.setCell ⟨q, j, none⟩ (.int .i64 y)) B (.slice a n cap) (R.set i ((R.getD i []).set j y)) := by
  obtain ⟨g, q, L, c, x, rfl, _, hq, hL, hx, h1, h2, h3, h4⟩ := h.at i j hi (by rw [hr.2 i hi]; exact hj)
  obtain ⟨g2, q2, L2, c2, x2, e, _, _, hL2, hx2, k1, k2, _, _⟩ := h.at i k hi (by rw [hr.2 i hi]; exact hk)
  injection e with e
  injection e with e
  subst e
  rw [h1] at k1
  injection k1 with k1
  injection k1 with k1 _ _
  injection k1 with k1
  injection k1 with k1
  subst k1
  obtain ⟨g3, q3, L3, c3, x3, e, _, _, hL3, hx3, m1, m2, _, _⟩ := h.at k j hk (by rw [hr.2 k hk]; exact hj)
  injection e with e
  injection e with e
  subst e
  rw [hr.2 i hi] at hL
  rw [hr.2 k hk] at hL3
  subst hL hL3 hx hx2 hx3
  exact ⟨g, q, c, q3, c3, rfl, hq, h1, h2, k2, m1, m2, h3, h4⟩
end Go.Proofs.Ytmobcobdpemlnaa.V

namespace Go.Proofs.Ytmobcobdpemlnaa.V
open Go.RowKit

/-- A matrix and a sign are returned. -/
def CPost (r : List (List Int) × Bool) (w : World) (e : Ending) (w' : World) : Prop :=
  ∃ b n c, e = .returned (.tuple #[.slice b n c, .bool r.2]) ∧ OwnM w' w.heap.size (.slice b n c) r.1 ∧ Below w.heap.size w w'

set_option maxRecDepth 100000 in
set_option maxHeartbeats 4000000 in
theorem plusOf (a : Option Addr) (n cap : Nat) (R : List (List Int)) (w : World) (h : Sq w a n R) :
    Calls Try.prog 118 #[.slice a n cap] w (CPost (M.plusL R n) w) := by
  have HS := Lib.hid h
  obtain ⟨n1, n2⟩ := h.2.2.2
  have HSm : Hid (∀ i j, i < n → j < n → M.Sm 1000001000000 (M.ent R i j)) := h.2.2.1
  have HRe : Hid (M.mk n n (M.cfw (M.ent R) 0) = R) := by
    show _ = _
    have e := M.mk_self R n (fun i hi => h.2.1.2 i (by rw [← h.2.1.1]; exact hi))
    rw [h.2.1.1] at e
    exact e
  have hst : ∀ (w : World) (a : Addr) (f : Fn), (store a (.func f #[] #[])).run Try.prog w = stored Try.prog w a (.func f #[] #[]) .plain := fun w a f => run_store _ w a _ _ rfl
  clear h
  go_enter Try.func118, Try.ntmps118
  go_wp2_with fail
  refine (maxPlus _).mono ?_
  rintro e w1 ⟨rfl, hb1⟩
  obtain ⟨wb, hwb⟩ : ∃ wb, wb = w1.alloc (.cells #[.func (.func 126) #[] #[], .func (.func 128) #[] #[]] 107) := ⟨_, rfl⟩
  have HSB : Hid (wb.heap.size = w1.heap.size + 1) := by show _ = _; rw [hwb]; simp
  have HBW : Hid (Below w.heap.size w wb) := by show Below _ _ _; rw [hwb]; exact hb1.alloc hb1.size _
  have HK0 : Hid (wb.cell? ⟨w1.heap.size, 0, none⟩ = some (.func (.func 126) #[] #[])) := by show _ = _; rw [hwb]; simp [go_sem]
  have HK1 : Hid (wb.cell? ⟨w1.heap.size, 1, none⟩ = some (.func (.func 128) #[] #[])) := by show _ = _; rw [hwb]; simp [go_sem]
  have HWB := Lib.hid hwb
  clear hwb
  go_wp2_with fail
  rw [← HWB.out]
  clear hb1 HWB hst
  refine (copiedMatrix _ _ _ R n _ (HS.out.1.below HBW.out) HS.out.2.1 n1 n2 n1 n2).mono ?_
  rintro e w2 ⟨a2, cap2, rfl, hO, hb⟩
  rw [← HRe.out] at hO
  obtain ⟨g, -, -, -, -, rfl, -⟩ := hO.tri (rect_mk _ _ _) 0 0 0 (by omega) (by omega) (by omega)
  have HO0 := Lib.hid hO
  have HB0 := Lib.hid hb
  have hD0 : Hid (∀ m, m < 0 → M.cfw (M.ent R) m m m ≤ 0) := fun m hm => absurd hm (Nat.not_lt_zero m)
  have HP : ∀ wr, Below wb.heap.size wb wr → wr.cell? ⟨w1.heap.size, 0, none⟩ = some (.func (.func 126) #[] #[]) ∧ wr.cell? ⟨w1.heap.size, 1, none⟩ = some (.func (.func 128) #[] #[]) := fun wr hb => by
    have hlt : w1.heap.size < wb.heap.size := by have := HSB.out; omega
    rw [hb.cell (p := ⟨w1.heap.size, 0, none⟩) hlt, hb.cell (p := ⟨w1.heap.size, 1, none⟩) hlt]
    exact ⟨HK0.out, HK1.out⟩
  have HPH := Lib.hid HP
  clear hO hb HP
  go_wp2
  go_loopw [6, 14] (fun _ i wr => ∃ k : Nat, k ≤ n ∧ i = .int .i64 k ∧ OwnM wr wb.heap.size (.slice (some ⟨g, 0, none⟩) n cap2) (M.mk n n (M.cfw (M.ent R) k)) ∧ Below wb.heap.size wb wr ∧ Hid (∀ m, m < k → M.cfw (M.ent R) m m m ≤ 0)) (fun _ i _ => n - (intOf i).toNat)
  case atStart => exact ⟨0, Nat.zero_le _, rfl, HO0.out, HB0.out, hD0⟩
  case round =>
    obtain ⟨k, hk, rfl, hO, hb, HD⟩ := hrel
    obtain ⟨wo, rfl⟩ : ∃ x, x = wr := ⟨_, rfl⟩
    have HO := Lib.hid hO
    have HB := Lib.hid hb
    clear hO hb HO0 HB0 hD0
    by_cases hlt : k < n
    · have hki : (k : Int) < (n : Int) := by omega
      obtain ⟨g2, q, c, -, -, hgg, -, h1, h2, -⟩ := HO.out.tri (rect_mk _ _ _) k k k hlt hlt hlt
      injection hgg with hgg
      injection hgg with hgg
      subst hgg
      rw [M.ent_mk _ _ _ _ _ hlt hlt] at h2
      obtain ⟨d, hd⟩ : ∃ d, d = M.cfw (M.ent R) k k k := ⟨_, rfl⟩
      rw [← hd] at h2
      by_cases hp : 0 < d
      · have HF : Hid (M.plusL R n = ([], false)) := by
          show _ = _; unfold M.plusL; rw [M.noPos_f hlt (by rw [← hd]; omega)]; rfl
        clear hd
        go_wp2
        go_ret2
        rw [HF.out]
        exact ⟨none, 0, 0, rfl, ownM_nil _ _, HBW.out.trans (HB.out.mono HBW.out.size)⟩
      · have hp2 : d ≤ 0 := by omega
        have HDk : Hid (M.cfw (M.ent R) k k k ≤ 0) := by show _ ≤ _; rw [← hd]; exact hp2
        have HD2 : Hid (∀ m, m < k + 1 → M.cfw (M.ent R) m m m ≤ 0) := fun m hm => by
          by_cases e : m = k
          · subst e; exact HDk.out
          · exact HD.out m (by omega)
        have HO2 : Hid (OwnM wo wb.heap.size (.slice (some ⟨g, 0, none⟩) n cap2) (M.mk n n (M.midF (M.ent R) k 0 0))) := by
          show OwnM _ _ _ _; rw [M.mid_zero]; exact HO.out
        clear hd HD HO
        go_wp2
        clear h1 h2
        go_loopw [7, 27] (fun _ i wr => ∃ s : Nat, s ≤ n ∧ i = .int .i64 s ∧ OwnM wr wb.heap.size (.slice (some ⟨g, 0, none⟩) n cap2) (M.mk n n (M.midF (M.ent R) k s 0)) ∧ Below wb.heap.size wb wr) (fun _ i _ => n - (intOf i).toNat)
        case atStart => exact ⟨0, Nat.zero_le _, rfl, HO2.out, HB.out⟩
        case round =>
          obtain ⟨s, hs, rfl, hO, hb⟩ := hrel
          obtain ⟨wp, rfl⟩ : ∃ x, x = wr := ⟨_, rfl⟩
          have HOs := Lib.hid hO
          have HBs := Lib.hid hb
          clear hO hb HO2 HB
          by_cases hsl : s < n
          · have hsi : (s : Int) < (n : Int) := by omega
            go_wp2
            go_loopw [8, 32] (fun _ j wr => ∃ t : Nat, t ≤ n ∧ j = .int .i64 t ∧ OwnM wr wb.heap.size (.slice (some ⟨g, 0, none⟩) n cap2) (M.mk n n (M.midF (M.ent R) k s t)) ∧ Below wb.heap.size wb wr) (fun _ j _ => n - (intOf j).toNat)
            case atStart => exact ⟨0, Nat.zero_le _, rfl, HOs.out, HBs.out⟩
            case round =>
              obtain ⟨t, ht, rfl, hO, hb⟩ := hrel
              have HOt := Lib.hid hO
              have HBt := Lib.hid hb
              clear hO hb HOs HBs
              by_cases htl : t < n
              · have hti : (t : Int) < (n : Int) := by omega
                obtain ⟨g2, q, c, q', c', hgg, hq, h1, h2, h3, h4, h5, h6, ho⟩ := HOt.out.tri (rect_mk _ _ _) s t k hsl htl hlt
                injection hgg with hgg
                injection hgg with hgg
                subst hgg
                rw [M.ent_mk _ _ _ _ _ hsl htl] at h2
                rw [M.ent_mk _ _ _ _ _ hsl hlt, M.mid_col n2 HSm.out hlt (fun m hm => HD2.out m (by omega)) HDk.out hsl] at h3
                rw [M.ent_mk _ _ _ _ _ hlt htl, M.mid_row n2 HSm.out hlt (fun m hm => HD2.out m (by omega)) HDk.out htl] at h5
                have e0 : M.midF (M.ent R) k s t s t = M.cfw (M.ent R) k s t := by unfold M.midF; rw [if_neg (by omega)]
                rw [e0] at h2
                obtain ⟨p0, p1⟩ := HPH.out _ HBt.out
                have HB1 : Hid (M.Big (M.cfw (M.ent R) k s k)) := M.big_sm (M.cfw_big n2 HSm.out (by omega) (fun m hm => HD2.out m (by omega)) s k hsl hlt) (by omega)
                have HB2 : Hid (M.Big (M.cfw (M.ent R) k k t)) := M.big_sm (M.cfw_big n2 HSm.out (by omega) (fun m hm => HD2.out m (by omega)) k t hlt htl) (by omega)
                obtain ⟨x, hx⟩ : ∃ x, x = M.cfw (M.ent R) k s t := ⟨_, rfl⟩
                obtain ⟨y, hy⟩ : ∃ y, y = M.cfw (M.ent R) k s k := ⟨_, rfl⟩
                obtain ⟨z, hz⟩ : ∃ z, z = M.cfw (M.ent R) k k t := ⟨_, rfl⟩
                rw [← hx] at h2
                rw [← hy] at h3 HB1
                rw [← hz] at h5 HB2
                obtain ⟨u, hu⟩ : ∃ u, u = M.times y z := ⟨_, rfl⟩
                obtain ⟨v, hv⟩ : ∃ v, v = max x u := ⟨_, rfl⟩
                have hv2 : v = M.cfw (M.ent R) (k + 1) s t := by rw [hv, hu, hx, hy, hz]; rfl
                have hN := ho v
                rw [hv2, M.mid_next _ _ _ _ _ hsl, ← hv2] at hN
                have HN := Lib.hid hN
                have HC1 : ∀ w : World, Calls Try.prog 128 #[.int .i64 y, .int .i64 z] w fun e w' => e = .returned (.int .i64 u) ∧ w = w' := by
                  intro w
                  rw [hu]
                  exact clTimes _ _ _ HB1.out HB2.out
                have HC2 : ∀ w : World, Calls Try.prog 126 #[.int .i64 x, .int .i64 u] w fun e w' => e = .returned (.int .i64 v) ∧ w = w' := by
                  intro w
                  rw [hv]
                  exact clPlus _ _ _
                clear hx hy hz hu hv hv2 hN ho e0
                go_wp2
                go_still_tail 33, (by kernel_rfl)
                still_call (st_of (HC1 _))
                repeat still_step
                still_call (st_of (HC2 _))
                repeat still_step
                refine wpStill_nil ?_
                change wpList _ _ _ _ _ wr.drew
                go_wp2
                go_roundw
                case rel => exact ⟨t + 1, by omega, by go_num, HN.out.keep (fun _ _ _ => rfl), HBt.out.drew.setCell hq _⟩
                case measure => simp [intOf]; omega
              · obtain rfl : t = n := by omega
                have HO3 : Hid (OwnM wr wb.heap.size (.slice (some ⟨g, 0, none⟩) t cap2) (M.mk t t (M.midF (M.ent R) k (s + 1) 0))) := by
                  show OwnM _ _ _ _; rw [← M.mid_row_end]; exact HOt.out
                clear HOt
                go_wp2
                go_roundw
                case rel => exact ⟨s + 1, by omega, by go_num, HO3.out, HBt.out⟩
                case measure => simp [intOf]; omega
          · obtain rfl : s = n := by omega
            have HO3 : Hid (OwnM wp wb.heap.size (.slice (some ⟨g, 0, none⟩) s cap2) (M.mk s s (M.cfw (M.ent R) (k + 1)))) := by
              show OwnM _ _ _ _; rw [← M.mid_end]; exact HOs.out
            clear HOs
            go_wp2
            go_roundw
            case rel => exact ⟨k + 1, by omega, by go_num, HO3.out, HBs.out, HD2⟩
            case measure => simp [intOf]; omega
    · obtain rfl : k = n := by omega
      have HF : Hid (M.plusL R k = (M.plusM R k, true)) := by
        show _ = _; unfold M.plusL; rw [M.noPos_of HD.out]; rfl
      go_wp2
      go_ret2
      rw [HF.out]
      exact ⟨_, _, _, rfl, HO.out.mono HBW.out.size, HBW.out.trans (HB.out.mono HBW.out.size)⟩
end Go.Proofs.Ytmobcobdpemlnaa.V

namespace Go.Proofs.Ytmobcobdpemlnaa.V
open Go.RowKit

set_option maxRecDepth 100000 in
set_option maxHeartbeats 400000 in
theorem divisor (a b : Int) (w : World) (a1 : -1000000000000 ≤ a) (a2 : a ≤ 1000000000000) (b1 : -1000000000000 ≤ b) (b2 : b ≤ 1000000000000) :
    Calls Try.prog 111 #[.int .i64 a, .int .i64 b] w fun e w' => e = .returned (.int .i64 (Int.gcd a b)) ∧ w = w' := by
  go_enter Try.func111, Try.ntmps111
  go_wp2
  go_loop [0, 1] (fun p q => ∃ x y : Int, p = .int .i64 x ∧ q = .int .i64 y ∧ Int.gcd x y = Int.gcd a b ∧ -1000000000000 ≤ x ∧ x ≤ 1000000000000 ∧ -1000000000000 ≤ y ∧ y ≤ 1000000000000) (fun p _ => (intOf p).natAbs)
  case atStart => exact ⟨a, b, rfl, rfl, rfl, a1, a2, b1, b2⟩
  case round =>
    obtain ⟨x, y, rfl, rfl, hg, x1, x2, y1, y2⟩ := hrel
    have HG : Hid (Int.gcd x y = Int.gcd a b) := hg
    clear hg
    by_cases hx : x = 0
    · subst hx
      by_cases hy : y < 0
      · go_wp2
        go_ret
        exact ⟨retI (by have := HG.out; rw [← this, M.gcd_zero, if_pos hy]), rfl⟩
      · go_wp2
        go_ret
        exact ⟨retI (by have := HG.out; rw [← this, M.gcd_zero, if_neg (by omega)]), rfl⟩
    · have hx' : (x != 0) = true := by simpa using hx
      have hx'' : (x == 0) = false := by simpa using hx
      have hl := M.tmod_lt x y hx
      have HS : Hid (Int.gcd (y.tmod x) x = Int.gcd a b) := by rw [M.gcd_step]; exact HG.out
      have l1 : -1000000000000 ≤ y.tmod x := by generalize y.tmod x = z at *; omega
      have l2 : y.tmod x ≤ 1000000000000 := by generalize y.tmod x = z at *; omega
      have HL : Hid ((y.tmod x).natAbs < x.natAbs) := hl
      clear hl
      go_wp2
      go_round
      case rel => exact ⟨_, _, rfl, rfl, HS.out, l1, l2, x1, x2⟩
      case measure => exact HL.out

end Go.Proofs.Ytmobcobdpemlnaa.V

namespace Go.Proofs.Ytmobcobdpemlnaa.V
open Go.RowKit


set_option maxRecDepth 100000 in
set_option maxHeartbeats 400000 in
theorem isRatio (n d : Int) (w : World) :
    Calls Try.prog 77 #[.agg #[.int .i64 n, .int .i64 d]] w fun e w' => e = .returned (.bool (M.isRat n d)) ∧ Below w.heap.size w w' := by
  by_cases h1 : M.isFin n = true
  · by_cases h2 : d < 1
    · go_enter Try.func77, Try.ntmps77
      go_wp2_with (first | (go_at_call 110; refine (isFinite _ _).mono ?_; rintro e w' ⟨rfl, rfl⟩) | (go_at_call 111; refine (divisor _ _ _ (by omega) (by omega) (by omega) (by omega)).mono ?_; rintro e w' ⟨rfl, rfl⟩))
      all_goals
        go_ret
        exact ⟨retB (by simp [M.isRat, h1]; omega), b_alloc _ _⟩
    · have h4 := M.isFin_t h1
      obtain ⟨h5, h6⟩ := h4
      by_cases h3 : d ≤ 1000000
      · go_enter Try.func77, Try.ntmps77
        go_wp2_with (first | (go_at_call 110; refine (isFinite _ _).mono ?_; rintro e w' ⟨rfl, rfl⟩) | (go_at_call 111; refine (divisor _ _ _ (by omega) (by omega) (by omega) (by omega)).mono ?_; rintro e w' ⟨rfl, rfl⟩))
        all_goals
          go_ret
          refine ⟨retB ?_, b_alloc _ _⟩
          have e2 : (1 ≤ d) := by omega
          simp only [M.isRat, h1, e2, h3, decide_true, Bool.true_and]
          rfl
      · go_enter Try.func77, Try.ntmps77
        go_wp2_with (first | (go_at_call 110; refine (isFinite _ _).mono ?_; rintro e w' ⟨rfl, rfl⟩) | (go_at_call 111; refine (divisor _ _ _ (by omega) (by omega) (by omega) (by omega)).mono ?_; rintro e w' ⟨rfl, rfl⟩))
        all_goals
          go_ret
          exact ⟨retB (by simp [M.isRat, h1]; omega), b_alloc _ _⟩
  · simp only [Bool.not_eq_true] at h1
    go_enter Try.func77, Try.ntmps77
    go_wp2_with (first | (go_at_call 110; refine (isFinite _ _).mono ?_; rintro e w' ⟨rfl, rfl⟩) | (go_at_call 111; refine (divisor _ _ _ (by omega) (by omega) (by omega) (by omega)).mono ?_; rintro e w' ⟨rfl, rfl⟩))
    all_goals
      go_ret
      exact ⟨retB (by simp [M.isRat, h1]), b_alloc _ _⟩

theorem retR {n d a b : Int} {c : Int} (h : M.mkRat n d = (a, b, c)) : Ending.returned (.tuple #[.agg #[.int .i64 a, .int .i64 b], .int .i64 c]) = .returned (.tuple #[.agg #[.int .i64 (M.mkRat n d).1, .int .i64 (M.mkRat n d).2.1], .int .i64 (M.mkRat n d).2.2]) := by rw [h]

set_option maxRecDepth 100000 in
set_option maxHeartbeats 400000 in
theorem reduced (n d : Int) (w : World) (h0 : d ≠ 0) (h3 : -1000000000000 ≤ n) (h4 : n ≤ 1000000000000) (h5 : -1000000 ≤ d) (h6 : d ≤ 1000000) :
    Calls Try.prog 109 #[.int .i64 n, .int .i64 d] w fun e w' => e = .returned (.agg #[.int .i64 (M.ratN n d), .int .i64 (M.ratD n d)]) ∧ Below w.heap.size w w' := by
  have h7 : (d == 0) = false := by simpa using h0
  have hp := M.gcd_pos (x := n) h0
  have hq := M.gcd_le n d h0 h5 h6
  go_enter Try.func109, Try.ntmps109
  go_wp2_with (first | (go_at_call 111; refine (divisor _ _ _ (by omega) (by omega) (by omega) (by omega)).mono ?_; rintro e w' ⟨rfl, rfl⟩))
  · have hd : d < 0 := by assumption
    have hz : (-(Int.gcd n d : Int) == 0) = false := by simp; omega
    go_region
    go_wp2
    exact bodyPost_ret (v := .agg #[.int .i64 (n.tdiv (-(Int.gcd n d : Int))), .int .i64 (d.tdiv (-(Int.gcd n d : Int)))]) (by simp [results, Try.results109, go_sem]; exact ⟨wneg _ _ h3 h4, wneg _ _ (by omega) (by omega)⟩) rfl ⟨by rw [M.ratN_neg hd, M.ratD_neg hd], (b_alloc _ _).drew⟩
  · have hd : ¬ d < 0 := by omega
    have hz : ((Int.gcd n d : Int) == 0) = false := by simp; omega
    go_region
    go_wp2
    exact bodyPost_ret (v := .agg #[.int .i64 (n.tdiv (Int.gcd n d : Int)), .int .i64 (d.tdiv (Int.gcd n d : Int))]) (by simp [results, Try.results109, go_sem]; exact (Int.tdiv_eq_ediv_of_nonneg (by omega)).symm) rfl ⟨by rw [M.ratN_pos (by omega), M.ratD_pos (by omega)], (b_alloc _ _).drew⟩

end Go.Proofs.Ytmobcobdpemlnaa.V

namespace Go.Proofs.Ytmobcobdpemlnaa.V
open Go.RowKit

set_option maxRecDepth 100000 in
set_option maxHeartbeats 400000 in
theorem cmpInt (x y : Int) (w : World) :
    Calls Try.prog 141 #[.int .i64 x, .int .i64 y] w fun e w' => e = .returned (.int .i64 (M.cmpZ x y)) ∧ w = w' := by
  go_enter Try.func141, Try.ntmps141
  go_wp2
  all_goals
    go_ret
    exact ⟨retI (by unfold M.cmpZ; split <;> (try split) <;> omega), rfl⟩

set_option maxRecDepth 100000 in
set_option maxHeartbeats 400000 in
theorem compareM (a b c d : Int) (w : World) (p1 : -1000000000000000 ≤ a * d) (p2 : a * d ≤ 1000000000000000) (q1 : -1000000000000000 ≤ c * b) (q2 : c * b ≤ 1000000000000000) :
    Calls Try.prog 133 #[.agg #[.int .i64 a, .int .i64 b], .agg #[.int .i64 c, .int .i64 d]] w fun e w' => e = .returned (.int .i64 (M.cmpZ (a * d) (c * b))) ∧ Below w.heap.size w w' := by
  have e1 : IntKind.i64.wrap (a * d) = a * d := IntWalk.i64_in _ (by omega)
  have e2 : IntKind.i64.wrap (c * b) = c * b := IntWalk.i64_in _ (by omega)
  go_enter Try.func133, Try.ntmps133
  go_wp2_with fail
  refine (cmpInt _ _ _).mono ?_
  rintro e w3 ⟨rfl, rfl⟩
  go_wp2
  go_ret
  exact ⟨rfl, b_alloc2 _ _ _⟩

end Go.Proofs.Ytmobcobdpemlnaa.V

namespace Go.Proofs.Ytmobcobdpemlnaa
namespace M
/-- A matrix that is being written: the entries before i, j are the new ones. -/
def midG (f g : Nat → Nat → Int) (i j s t : Nat) : Int := if s < i ∨ (s = i ∧ t < j) then f s t else g s t
theorem midG_next (f g : Nat → Nat → Int) (n i j : Nat) (hi : i < n) :
    (mk n n (midG f g i j)).set i (((mk n n (midG f g i j)).getD i []).set j (f i j)) = mk n n (midG f g i (j + 1)) := by
  rw [mk_set _ _ _ _ _ _ hi]
  refine mk_congr fun s _ t _ => ?_
  unfold midG
  by_cases e : s = i
  · subst e
    rw [if_pos rfl]
    by_cases e2 : t = j
    · subst e2; rw [if_pos rfl, if_pos (by omega)]
    · rw [if_neg e2]
      by_cases e3 : t < j
      · rw [if_pos (by omega), if_pos (by omega)]
      · rw [if_neg (by omega), if_neg (by omega)]
  · rw [if_neg e]
    by_cases e3 : s < i
    · rw [if_pos (by omega), if_pos (by omega)]
    · rw [if_neg (by omega), if_neg (by omega)]
/-- An entry that stays. -/
theorem midG_same (f g : Nat → Nat → Int) (n i j : Nat) (h : f i j = g i j) : mk n n (midG f g i j) = mk n n (midG f g i (j + 1)) :=
  mk_congr fun s _ t _ => by
    unfold midG
    by_cases e : s < i ∨ (s = i ∧ t < j)
    · rw [if_pos e, if_pos (by omega)]
    · by_cases e2 : s = i ∧ t = j
      · obtain ⟨rfl, rfl⟩ := e2
        rw [if_neg e, if_pos (by omega), h]
      · rw [if_neg e, if_neg (by omega)]
theorem midG_row_end (f g : Nat → Nat → Int) (n i : Nat) : mk n n (midG f g i n) = mk n n (midG f g (i + 1) 0) :=
  mk_congr fun s _ t ht => by
    unfold midG
    by_cases e : s < i ∨ (s = i ∧ t < n)
    · rw [if_pos e, if_pos (by omega)]
    · rw [if_neg e, if_neg (by omega)]
theorem midG_zero (f g : Nat → Nat → Int) (n : Nat) : mk n n (midG f g 0 0) = mk n n g :=
  mk_congr fun s _ t _ => by unfold midG; rw [if_neg (by omega)]
theorem midG_end (f g : Nat → Nat → Int) (n : Nat) : mk n n (midG f g n 0) = mk n n f :=
  mk_congr fun s hs t _ => by unfold midG; rw [if_pos (by omega)]
theorem midG_at (f g : Nat → Nat → Int) (i j : Nat) : midG f g i j i j = g i j := by unfold midG; rw [if_neg (by omega)]
end M
namespace V
open Go.RowKit
abbrev rbox (a b : Int) : Obj := .cells #[.int .i64 a, .int .i64 b] 45
/-- The row's own block is not that of the rows. -/
theorem row_ne {w : World} {g q : Nat} {t : Nat} {x : Int} {a : Option Addr} {n c : Nat} (h1 : w.cell? ⟨q, t, none⟩ = some (.int .i64 x)) (h2 : w.cell? ⟨g, t, none⟩ = some (.slice a n c)) : q ≠ g := by
  rintro rfl
  rw [h1] at h2
  cases h2
end V
end Go.Proofs.Ytmobcobdpemlnaa

namespace Go.Proofs.Ytmobcobdpemlnaa.V
open Go.RowKit
theorem isRatio_b (n d : Int) (b : Bool) (hb : M.isRat n d = b) (w : World) :
    Calls Try.prog 77 #[.agg #[.int .i64 n, .int .i64 d]] w fun e w' => e = .returned (.bool b) ∧ Below w.heap.size w w' := by
  subst hb; exact isRatio n d w
/-- A boxed ratio and what becomes of it. -/
structure Boxed (w0 w : World) (num den : Int) : Prop where
  below : Below w0.heap.size w0 w
  size : w.heap.size = w0.heap.size + 1
  c0 : w.cell? ⟨w0.heap.size, 0, none⟩ = some (.int .i64 num)
  c1 : w.cell? ⟨w0.heap.size, 1, none⟩ = some (.int .i64 den)
theorem boxed (w0 : World) (num den : Int) : Boxed w0 (w0.alloc (rbox num den)) num den := ⟨b_alloc _ _, by simp, by simp, by simp⟩
theorem Boxed.cells {w0 w wr : World} {num den : Int} (h : Boxed w0 w num den) (hb : Below w.heap.size w wr) : wr.cell? ⟨w0.heap.size, 0, none⟩ = some (.int .i64 num) ∧ wr.cell? ⟨w0.heap.size, 1, none⟩ = some (.int .i64 den) := by
  have := h.size
  exact ⟨(hb.cell (p := ⟨w0.heap.size, 0, none⟩) (by show w0.heap.size < _; omega)).trans h.c0, (hb.cell (p := ⟨w0.heap.size, 1, none⟩) (by show w0.heap.size < _; omega)).trans h.c1⟩
theorem Boxed.trans {w0 w wr : World} {num den : Int} (h : Boxed w0 w num den) (hb : Below w.heap.size w wr) : Below w0.heap.size w0 wr := h.below.trans (hb.mono h.below.size)
theorem sq_parts {w : World} {a : Option Addr} {n : Nat} {R : List (List Int)} (h : Mat w a n R) (hs : M.sqB R = true) : Rect R n n ∧ 1 ≤ n ∧ n ≤ 10 ∧ ∀ i j, i < n → j < n → M.Sm 1000000 (M.ent R i j) := by
  have hq := sq_of h hs
  have e := (M.sq_sm hs).2.2
  rw [h.1] at e
  exact ⟨hq.2.1, hq.2.2.2.1, hq.2.2.2.2, e⟩
end Go.Proofs.Ytmobcobdpemlnaa.V

namespace Go.Proofs.Ytmobcobdpemlnaa
namespace M
theorem shiftRes_ok (R : List (List Int)) (a b : Int) : okM (shiftRes R a b).1 := by
  unfold shiftRes
  split
  · split
    · next h => exact .inr h
    · exact .inl rfl
  · exact .inl rfl
theorem potRes_len (R : List (List Int)) (a b : Int) : (potRes R a b).1.length ≤ 10 := by
  unfold potRes
  split
  · split
    · split
      · next h => exact (isVec_t h).2.1
      · simp
    · simp
  · simp
theorem bestRes_len (R : List (List Int)) : (bestRes R).1.length ≤ 10 := by
  unfold bestRes
  split
  · split
    · next h1 h2 => exact (best_cyc h1 h2).2.2.2
    · simp
  · simp
end M
namespace V
open Go.RowKit
theorem low3 {w1 w2 : World} {P Q : Prop} (h : P ∧ Q ∧ Below w1.heap.size w1 w2) : Below w1.heap.size w1 w2 := h.2.2
theorem keep3 {w0 w1 w2 : World} {b i j : Nat} {x y : Value} (hb0 : b < w0.heap.size) (h : w1.cell? ⟨b, i, none⟩ = some x ∧ w1.cell? ⟨b, j, none⟩ = some y ∧ Below w0.heap.size w0 w1) (hb : Below w1.heap.size w1 w2) : w2.cell? ⟨b, i, none⟩ = some x ∧ w2.cell? ⟨b, j, none⟩ = some y ∧ Below w0.heap.size w0 w2 := by
  have := h.2.2.size
  exact ⟨(hb.cell (p := ⟨b, i, none⟩) (by show b < _; omega)).trans h.1, (hb.cell (p := ⟨b, j, none⟩) (by show b < _; omega)).trans h.2.1, h.2.2.trans (hb.mono this)⟩
end V
end Go.Proofs.Ytmobcobdpemlnaa
