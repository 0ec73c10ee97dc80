/- Texts laid together: SMul, IAdd, IMul, Trans. -/
import Derived.Test.YtlofnadpgnbmdaaGreatRows
import Derived.Test.YtlofnadpgnbmdaaGreatQa1
import Derived.Test.YtlofnadpgnbmdaaGreatQa2
import Derived.WalkKit
import Derived.ProofKit
import Derived.WalkSmall
import Derived.Deep.QuietTactic
import Derived.BigQuiet
import Derived.BigRegion
import Derived.Deep.Draws
import Derived.Lib.Hide
import Derived.OpenShut
import Derived.Deep.OwnRows
import Derived.Test.YtlofnadpgnbmdaaGreatQa3
import Derived.Test.YtlofnadpgnbmdaaGreatQa4
import Derived.StillTailTactics
set_option linter.unusedSimpArgs false
set_option linter.unusedVariables false
set_option linter.unusedSectionVars false
namespace Go.Proofs.YtlofnadpgnbmdaaGreat.V
open Go.RowKit

theorem tm_val {R : List (List Int)} {n L : Nat} (hR : M.isMat R = true) (hr : Rect R n L) (hn : 0 < n) {i j : Nat} (hi : i < n) (hj : j < L) : M.isVal (M.ent R i j) = true :=
  M.isMat_val hR (by rw [hr.1]; exact hi) (by rw [hr.wid hn]; exact hj)

set_option maxRecDepth 100000 in
set_option maxHeartbeats 400000 in
theorem sTimesB (a b : Int) (w : World) (ha : M.Big a) (hb : M.Big b) : Calls Tryz.prog 125 #[.int .i64 a, .int .i64 b] w fun e w' => e = .returned (.int .i64 (M.times a b)) ∧ w = w' := by
  have ba := M.big_bound ha
  have bb := M.big_bound hb
  clear ha hb
  obtain ⟨ba1, ba2⟩ := ba
  obtain ⟨bb1, bb2⟩ := bb
  by_cases h : a = -1000000000000000
  · subst h
    go_enter Tryz.func125, Tryz.ntmps125
    go_wp2
    all_goals go_ret; exact ⟨retI (by simp [M.times]), rfl⟩
  · have h' : (a == -1000000000000000) = false := by simpa using h
    by_cases h2 : b = -1000000000000000
    · subst h2
      go_enter Tryz.func125, Tryz.ntmps125
      go_wp2
      all_goals go_ret; exact ⟨retI (by simp [M.times]), rfl⟩
    · have h2' : (b == -1000000000000000) = false := by simpa using h2
      go_enter Tryz.func125, Tryz.ntmps125
      go_wp2
      all_goals go_ret; exact ⟨retI (by simp [M.times, h, h2]), rfl⟩

/-- The entries that are done, the one that is being summed, and those still Bottom. -/
def M.mulS (R R' : List (List Int)) (N i j k : Nat) (s t : Nat) : Int :=
  if s < i ∨ (s = i ∧ t < j) then M.dot R R' s t N else if s = i ∧ t = j then M.dot R R' s t k else -1000000000000000

set_option maxRecDepth 100000 in
set_option maxHeartbeats 4000000 in
theorem sMultiplyB (a : Option Addr) (n cap N : Nat) (R : List (List Int)) (a' : Option Addr) (cap' L : Nat) (R' : List (List Int)) (w : World) (h : Mat w a n R) (h' : Mat w a' N R') (hr : Rect R n N) (hr' : Rect R' N L)
    (hR : ∀ i k, i < n → k < N → M.Big (M.ent R i k)) (hR' : ∀ k j, k < N → j < L → M.Big (M.ent R' k j)) (n1 : 1 ≤ n) (n2 : n ≤ 10) (N1 : 1 ≤ N) (N2 : N ≤ 10) (l1 : 1 ≤ L) (l2 : L ≤ 10) :
    Calls Tryz.prog 99 #[.slice a n cap, .slice a' N cap'] w (MPost n (M.mk n L (fun i j => M.dot R R' i j N)) w) := by
  have HA := Lib.hid h
  have HA' := Lib.hid h'
  have HR := Lib.hid hr
  have HR' := Lib.hid hr'
  have HV := Lib.hid hR
  have HV' := Lib.hid hR'
  obtain ⟨b', off', ra', rc', rfl, -, hc'⟩ := h'.rect_first hr' (by omega)
  clear h h' hr hr' hR hR'
  go_enter Tryz.func99, Tryz.ntmps99
  go_wp2_with fail
  refine (sBottom n L _ (by omega) (by omega)).mono ?_
  rintro e w1 ⟨a2, cap2, rfl, ho, hb⟩
  have HO0 : Hid (OwnM w1 w.heap.size (.slice a2 n cap2) (M.mk n L (M.mulS R R' N 0 0 0))) :=
    (congrArg (OwnM _ _ _) (M.mk_congr fun i _ j _ => by
      unfold M.mulS
      rw [if_neg (by omega)]
      by_cases e : i = 0 ∧ j = 0
      · rw [if_pos e]; rfl
      · rw [if_neg e])).mp ho
  have HB0 := Lib.hid hb
  clear ho hb
  go_wp2
  go_loopw [6] (fun i wr => ∃ k : Nat, k ≤ n ∧ i = .int .i64 k ∧ OwnM wr w.heap.size (.slice a2 n cap2) (M.mk n L (M.mulS R R' N k 0 0)) ∧ Below w.heap.size w wr) (fun i _ => n - (intOf i).toNat)
  case atStart => exact ⟨0, Nat.zero_le _, rfl, HO0.out, HB0.out⟩
  case round =>
    obtain ⟨k, hk, rfl, hO, hb⟩ := hrel
    obtain ⟨wo, rfl⟩ : ∃ x, x = wr := ⟨_, rfl⟩
    have HO := Lib.hid hO
    have HB := Lib.hid hb
    clear hO hb HO0 HB0
    by_cases hlt : k < n
    · have hki : (k : Int) < (n : Int) := by omega
      go_wp2
      go_loopw [7] (fun j wr => ∃ t : Nat, t ≤ L ∧ j = .int .i64 t ∧ OwnM wr w.heap.size (.slice a2 n cap2) (M.mk n L (M.mulS R R' N k t 0)) ∧ Below w.heap.size w wr) (fun j _ => L - (intOf j).toNat)
      case atStart => exact ⟨0, Nat.zero_le _, rfl, HO.out, HB.out⟩
      case round =>
        obtain ⟨t, ht, rfl, hO, hb⟩ := hrel
        obtain ⟨wp, rfl⟩ : ∃ x, x = wr := ⟨_, rfl⟩
        have HOi := Lib.hid hO
        have HBi := Lib.hid hb
        clear hO hb HB HO
        have hc2 : wp.cell? ⟨b', off', none⟩ = some (.slice ra' L rc') := by
          obtain ⟨d, od, rd, rcd, hdd, hbd, hcd⟩ := HA'.out.rect_first HR'.out (by omega)
          injection hdd with hdd
          injection hdd with e1 e2
          subst e1 e2
          rw [HBi.out.cell (p := ⟨b', off', none⟩) hbd]
          exact hc'
        by_cases htl : t < L
        · have hti : (t : Int) < (L : Int) := by omega
          go_wp2
          go_loopw [8] (fun l wr => ∃ u : Nat, u ≤ N ∧ l = .int .i64 u ∧ OwnM wr w.heap.size (.slice a2 n cap2) (M.mk n L (M.mulS R R' N k t u)) ∧ Below w.heap.size w wr) (fun l _ => N - (intOf l).toNat)
          case atStart => exact ⟨0, Nat.zero_le _, rfl, HOi.out, HBi.out⟩
          case round =>
            obtain ⟨u, hu, rfl, hO, hb⟩ := hrel
            have HOj := Lib.hid hO
            have HBj := Lib.hid hb
            clear hO hb HBi HOi hc2
            by_cases hul : u < N
            · have hui : (u : Int) < (N : Int) := by omega
              obtain ⟨g, q, L3, c3, x3, rfl, hg3, hq3, hL3, hx3, c31, c32, f31, ho3⟩ := HOj.out.at k t hlt (by rw [M.mk_rowlen _ _ _ _ hlt]; exact htl)
              rw [M.mk_rowlen _ _ _ _ hlt] at hL3
              subst hL3
              rw [M.mk_ent _ _ _ _ _ hlt htl] at hx3
              obtain ⟨d, od, rd, ro, c4, x4, rfl, hx4, c41, c42⟩ := (HA.out.below HBj.out).rect_ent HR.out k u hlt hul
              obtain ⟨d', od', rd', ro', c5, x5, hdd, hx5, c51, c52⟩ := (HA'.out.below HBj.out).rect_ent HR'.out u t hul htl
              injection hdd with hdd
              injection hdd with e1 e2
              subst e1 e2
              have hv4 : M.Big x4 := by rw [hx4]; exact HV.out k u hlt hul
              have hv5 : M.Big x5 := by rw [hx5]; exact HV'.out u t hul htl
              have HV4 := Lib.hid hv4
              have HV5 := Lib.hid hv5
              obtain ⟨y, hy⟩ : ∃ y, y = M.times x4 x5 := ⟨_, rfl⟩
              have HN : Hid (OwnM (wr.setCell ⟨q, t, none⟩ (.int .i64 (if x3 < y then y else x3))) w.heap.size (.slice (some ⟨g, 0, none⟩) n cap2) (M.mk n L3 (M.mulS R R' N k t (u + 1)))) := by
                refine (congrArg (OwnM _ _ _) ?_).mp (ho3 (if x3 < y then y else x3))
                rw [M.mk_set _ _ _ _ _ _ hlt]
                refine M.mk_congr fun i _ j _ => ?_
                rw [← M.ifmax, hx3, hy, hx4, hx5]
                unfold M.mulS
                rw [if_neg (show ¬(k < k ∨ k = k ∧ t < t) by omega), if_pos (show k = k ∧ t = t from ⟨rfl, rfl⟩)]
                by_cases e : i = k
                · subst e
                  rw [if_pos rfl]
                  by_cases e2 : j = t
                  · subst e2
                    rw [if_pos rfl, if_neg (show ¬(i < i ∨ i = i ∧ j < j) by omega), if_pos (show i = i ∧ j = j from ⟨rfl, rfl⟩)]
                    rfl
                  · rw [if_neg e2]
                    by_cases e3 : i < i ∨ i = i ∧ j < t
                    · rw [if_pos e3, if_pos e3]
                    · rw [if_neg e3, if_neg e3, if_neg (by omega), if_neg (by omega)]
                · rw [if_neg e]
                  by_cases e3 : i < k ∨ i = k ∧ j < t
                  · rw [if_pos e3, if_pos e3]
                  · rw [if_neg e3, if_neg e3, if_neg (by omega), if_neg (by omega)]
              have HC : ∀ w : World, Calls Tryz.prog 125 #[.int .i64 x4, .int .i64 x5] w fun e w' => e = .returned (.int .i64 y) ∧ w = w' := by
                intro w
                rw [hy]
                exact sTimesB _ _ _ HV4.out HV5.out
              clear ho3 hx3 hx4 hx5 hv4 hv5 hy
              go_wp2
              go_still_tail 29, (by kernel_rfl)
              still_call (st_of (HC _))
              repeat still_step
              refine wpStill_nil ?_
              change wpList _ _ _ _ _ wr.drew
              go_wp2
              first
                | exact ⟨⟨u + 1, by omega, by go_num, HN.out.keep (fun _ _ _ => rfl), HBj.out.drew.setCell hq3 _⟩, by simp [intOf]; omega⟩
                | (go_roundw
                   case rel => exact ⟨u + 1, by omega, by go_num, HN.out.keep (fun _ _ _ => rfl), HBj.out.drew.setCell hq3 _⟩
                   case measure => simp [intOf]; omega)
            · obtain rfl : u = N := by omega
              have HO2 : Hid (OwnM wr w.heap.size (.slice a2 n cap2) (M.mk n L (M.mulS R R' u k (t + 1) 0))) :=
                (congrArg (OwnM _ _ _) (M.mk_congr fun i hi j _ => by
                  unfold M.mulS
                  by_cases e : i < k ∨ i = k ∧ j < t
                  · rw [if_pos e, if_pos (by omega)]
                  · rw [if_neg e]
                    by_cases e2 : i = k ∧ j = t
                    · rw [if_pos e2, if_pos (by omega)]
                    · rw [if_neg e2, if_neg (by omega)]
                      by_cases e3 : i = k ∧ j = t + 1
                      · rw [if_pos e3]; rfl
                      · rw [if_neg e3])).mp HOj.out
              go_wp2
              go_roundw
              case rel => exact ⟨t + 1, by omega, by go_num, HO2.out, HBj.out⟩
              case measure => simp [intOf]; omega
        · obtain rfl : t = L := by omega
          have HO2 : Hid (OwnM wp w.heap.size (.slice a2 n cap2) (M.mk n t (M.mulS R R' N (k + 1) 0 0))) :=
            (congrArg (OwnM _ _ _) (M.mk_congr fun i hi j hj => by
              unfold M.mulS
              by_cases e : i < k ∨ i = k ∧ j < t
              · rw [if_pos e, if_pos (by omega)]
              · rw [if_neg e, if_neg (by omega), if_neg (by omega)]
                by_cases e3 : i = k + 1 ∧ j = 0
                · rw [if_pos e3]; rfl
                · rw [if_neg e3])).mp HOi.out
          go_wp2
          go_roundw
          case rel => exact ⟨k + 1, by omega, by go_num, HO2.out, HBi.out⟩
          case measure => simp [intOf]; omega
    · obtain rfl : k = n := by omega
      go_wp2
      go_ret
      exact ⟨_, _, rfl, (congrArg (OwnM _ _ _) (M.mk_congr fun i hi j _ => by unfold M.mulS; rw [if_pos (.inl hi)])).mp HO.out, HB.out⟩
theorem sMultiply (a : Option Addr) (n cap N : Nat) (R : List (List Int)) (a' : Option Addr) (cap' L : Nat) (R' : List (List Int)) (w : World) (h : Mat w a n R) (h' : Mat w a' N R') (hr : Rect R n N) (hr' : Rect R' N L)
    (hR : M.isMat R = true) (hR' : M.isMat R' = true) (n1 : 1 ≤ n) (n2 : n ≤ 10) (N1 : 1 ≤ N) (N2 : N ≤ 10) (l1 : 1 ≤ L) (l2 : L ≤ 10) :
    Calls Tryz.prog 99 #[.slice a n cap, .slice a' N cap'] w (MPost n (M.mk n L (fun i j => M.dot R R' i j N)) w) :=
  sMultiplyB a n cap N R a' cap' L R' w h h' hr hr' (fun i k hi hk => M.big_val (tm_val hR hr (by omega) hi hk)) (fun k j hk hj => M.big_val (tm_val hR' hr' (by omega) hk hj)) n1 n2 N1 N2 l1 l2
end Go.Proofs.YtlofnadpgnbmdaaGreat.V

namespace Go.Proofs.YtlofnadpgnbmdaaGreat.V
open Go.RowKit

set_option maxRecDepth 100000 in
set_option maxHeartbeats 400000 in
theorem clPlus (a b : Int) (w : World) : Calls Tryz.prog 106 #[.int .i64 a, .int .i64 b] w fun e w' => e = .returned (.int .i64 (max a b)) ∧ w = w' := by
  go_enter Tryz.func106, Tryz.ntmps106
  go_wp2_with (first | (go_at_call 107; refine (plus _ _ _).mono ?_; rintro e w' ⟨rfl, rfl⟩))
  go_ret
  exact ⟨rfl, rfl⟩

/-- The pair of operations. -/
theorem maxPlus (w : World) : Calls Tryz.prog 63 #[] w fun e w' => e = .returned (.agg #[.func (.func 106) #[] #[], .func (.func 108) #[] #[]]) ∧ Below w.heap.size w w' := by
  have hst : ∀ (w : World) (a : Addr) (f : Fn), (store a (.func f #[] #[])).run Tryz.prog w = stored Tryz.prog w a (.func f #[] #[]) .plain := fun w a f => run_store _ w a _ _ rfl
  go_enter Tryz.func63, Tryz.ntmps63
  go_wp2
  exact bodyPost_ret (v := .agg #[.func (.func 106) #[] #[], .func (.func 108) #[] #[]]) (by simp [results, Tryz.results63, go_sem]) rfl ⟨rfl, b_alloc _ _⟩

theorem fld0 (w : World) (f g : Fn) : (Instr.field 87 (.agg #[.func f #[] #[], .func g #[] #[]]) 0).run Tryz.prog w = .ok (.func f #[] #[]) w := by
  simp [Instr.field, part, asAgg, go_sem]
set_option maxRecDepth 100000 in
set_option maxHeartbeats 400000 in
theorem addMatrices_ok (a : Option Addr) (n cap : Nat) (R : List (List Int)) (a' : Option Addr) (n' cap' : Nat) (R' : List (List Int)) (w : World) (h : Mat w a n R) (h' : Mat w a' n' R') (hR : M.isMat R = true) (hR' : M.isMat R' = true) (hl : n = n') (hw : M.wid R = M.wid R') :
    Calls Tryz.prog 18 #[.slice a n cap, .slice a' n' cap'] w (MRes (M.addM R R', 0) w) := by
  subst hl
  have HA := Lib.hid h
  have HA' := Lib.hid h'
  have HL := Lib.hid h.1
  have HL' := Lib.hid h'.1
  have HR := Lib.hid hR
  have HR' := Lib.hid hR'
  obtain ⟨m1, m2, c1, c2, -, -⟩ := M.isMat_t hR
  rw [h.1] at m1 m2
  obtain ⟨b, off, ra, L, rc, rfl, hL, hc⟩ := h.first (by omega)
  obtain ⟨b', off', ra', L', rc', rfl, hL', hc'⟩ := h'.first (by omega)
  rw [← hw] at hL'
  obtain rfl : L = L' := hL.trans hL'.symm
  rw [← hL] at c1 c2
  have HW := Lib.hid hL
  have HW' := Lib.hid (hL.trans hw)
  have hmk := run_make_row' (P := Tryz.prog) 28 43 (.slice none 0 0) 24 Tryz.underlying28 infoS64 rfl .i64 .i64 n (by omega) (by omega)
  have hmk2 := run_make_row' (P := Tryz.prog) 43 2 (.int .i64 0) 8 Tryz.underlying43 info64 rfl .i64 .i64 L (by omega) (by omega)
  have hfld := fld0
  have HF : Hid (M.mk n L (fun i j => max (M.ent R i j) (M.ent R' i j)) = M.addM R R') := by show _ = _; unfold M.addM; rw [h.1, ← hL]
  clear h h' hR hR' hw hL hL'
  go_enter Tryz.func18, Tryz.ntmps18
  go_wp2_with fail
  refine (isMatrix_b _ _ _ R _ true HR.out HA.out).mono ?_
  rintro e w' ⟨rfl, rfl⟩
  go_wp2_with fail
  refine (isMatrix_b _ _ _ R' _ true HR'.out HA'.out).mono ?_
  rintro e w' ⟨rfl, rfl⟩
  go_wp2_with fail
  go_quiet (fail)
  go_wp2_with fail
  refine (maxPlus _).mono ?_
  rintro e w1 ⟨rfl, hb1⟩
  have HB1 : Hid (Below w.heap.size w w1) := (b_draws w _).trans hb1
  clear hb1 hc hc'
  have hO0 : Hid (OwnM (w1.alloc (.cells (madeCells #[.slice none 0 0] n) 43)) w1.heap.size (.slice (some ⟨w1.heap.size, 0, none⟩) n n) (M.part n L (fun i j => max (M.ent R i j) (M.ent R' i j)) 0)) := by
    rw [M.part_zero]; exact ownM_made w1 _ n (Nat.le_refl _) (by unfold maxLen; omega)
  have HB0 := Lib.hid (HB1.out.alloc HB1.out.size (.cells (madeCells #[.slice none 0 0] n) 43))
  go_wp2
  go_loopw [41] (fun i wr => ∃ k : Nat, k ≤ n ∧ i = .int .i64 k ∧ OwnM wr w1.heap.size (.slice (some ⟨w1.heap.size, 0, none⟩) n n) (M.part n L (fun i j => max (M.ent R i j) (M.ent R' i j)) k) ∧ Below w.heap.size w wr) (fun i _ => n - (intOf i).toNat)
  case atStart => exact ⟨0, Nat.zero_le _, rfl, hO0.out, HB0.out⟩
  case round =>
    obtain ⟨k, hk, rfl, hO, hb⟩ := hrel
    obtain ⟨wo, rfl⟩ : ∃ x, x = wr := ⟨_, rfl⟩
    have HO := Lib.hid hO
    have HB := Lib.hid hb
    clear hO hb hO0 HB0
    by_cases hlt : k < n
    · have hki : (k : Int) < (n : Int) := by omega
      obtain ⟨b2, off2, ra2, rc2, L2, l2, hbb, -, hl2, hc2, hI2⟩ := (HA.out.below HB.out).at k hlt
      injection hbb with hbb
      injection hbb with e1 e2
      subst e1 e2
      have e3 : L2 = L := by rw [← hI2.1, hl2, HW.out]; exact M.isMat_len HR.out (by have := HL.out; omega)
      subst e3
      clear hl2 hI2
      have hg := HO.out.lt rfl
      have hsz := HB.out.size
      obtain ⟨v0, hv0⟩ := HO.out.outer k hlt
      have hfz0 := HO.out.outerFz k
      have hO2 := HO.out.setRow (b_alloc wo (.cells (madeCells #[.int .i64 0] L2) 2)) (by have := HB1.out.size; omega) (own_made wo wo.heap.size L2 (Nat.le_refl _) (by unfold maxLen; omega)) k hlt
      rw [M.part_set] at hO2
      rw [World.setCell_alloc_past _ _ _ _ hg] at hO2
      have HO2 := Lib.hid hO2
      have hB2 := (((HB.out.alloc hsz (.cells (madeCells #[.int .i64 0] L2) 2))).setCell (p := ⟨w1.heap.size, k, none⟩) HB1.out.size (.slice (some ⟨wo.heap.size, 0, none⟩) L2 L2))
      rw [World.setCell_alloc_past _ _ _ _ hg] at hB2
      have HB2 := Lib.hid hB2
      clear hO2 hB2
      go_wp2
      clear hv0 hfz0 hc2 hg
      go_loopw [58] (fun j wr => ∃ t : Nat, t ≤ L2 ∧ j = .int .i64 t ∧ OwnM wr w1.heap.size (.slice (some ⟨w1.heap.size, 0, none⟩) n n) (M.part2 n L2 (fun i j => max (M.ent R i j) (M.ent R' i j)) k t) ∧ Below w.heap.size w wr) (fun j _ => L2 - (intOf j).toNat)
      case atStart => exact ⟨0, Nat.zero_le _, rfl, HO2.out, HB2.out⟩
      case round =>
        obtain ⟨t, ht, rfl, hO, hb⟩ := hrel
        have HOi := Lib.hid hO
        have HBi := Lib.hid hb
        clear hO hb HO2 HB2
        by_cases htl : t < L2
        · have hti : (t : Int) < (L2 : Int) := by omega
          have hkR : k < R.length := by have := HL.out; omega
          have hkR' : k < R'.length := by have := HL'.out; omega
          obtain ⟨g, q, L3, c3, x3, hgg, hg3, hq3, hL3, hx3, c31, c32, f31, ho3⟩ := HOi.out.at k t hlt (by rw [M.part2_rowlen _ _ _ _ _ hlt]; exact htl)
          injection hgg with hgg
          injection hgg with hgg
          subst hgg
          rw [M.part2_rowlen _ _ _ _ _ hlt] at hL3
          subst hL3
          obtain ⟨d, od, rd, ro, L4, c4, x4, hdd, hL4, hx4, c41, c42⟩ := (HA.out.below HBi.out).ent k t hlt (by rw [M.isMat_len HR.out hkR, ← HW.out]; exact htl)
          injection hdd with hdd
          injection hdd with e1 e2
          subst e1 e2
          rw [M.isMat_len HR.out hkR, ← HW.out] at hL4
          subst hL4
          obtain ⟨d, od, rd', ro', L5, c5, x5, hdd, hL5, hx5, c51, c52⟩ := (HA'.out.below HBi.out).ent k t hlt (by rw [M.isMat_len HR'.out hkR', ← HW'.out]; exact htl)
          injection hdd with hdd
          injection hdd with e1 e2
          subst e1 e2
          rw [M.isMat_len HR'.out hkR', ← HW'.out] at hL5
          subst hL5
          have HN : Hid (OwnM (wr.setCell ⟨q, t, none⟩ (.int .i64 (max x4 x5))) w1.heap.size (.slice (some ⟨w1.heap.size, 0, none⟩) n n) (M.part2 n L5 (fun i j => max (M.ent R i j) (M.ent R' i j)) k (t + 1))) :=
            (congrArg (OwnM _ _ _) (by rw [hx4, hx5]; exact M.part2_set _ _ (fun i j => max (M.ent R i j) (M.ent R' i j)) _ _ hlt)).mp (ho3 (max x4 x5))
          clear ho3 hx3 hx4 hx5 hkR hkR'
          go_wp2
          go_still_tail 22, (by kernel_rfl)
          still_call (st_of (clPlus _ _ _))
          repeat still_step
          refine wpStill_nil ?_
          change wpList _ _ _ _ _ wr.drew
          go_wp2
          go_roundw
          case rel => exact ⟨t + 1, by omega, by go_num, HN.out.keep (fun _ _ _ => rfl), HBi.out.drew.setCell (Nat.le_trans HB1.out.size hq3) _⟩
          case measure => simp [intOf]; omega
        · obtain rfl : t = L2 := by omega
          have hO2 := HOi.out
          rw [M.part2_end] at hO2
          have HO2 := Lib.hid hO2
          clear hO2
          go_wp2
          go_roundw
          case rel => exact ⟨k + 1, by omega, by go_num, HO2.out, HBi.out⟩
          case measure => simp [intOf]; omega
    · obtain rfl : k = n := by omega
      go_wp2
      go_ret2
      exact ⟨_, _, _, rfl, by rw [← HF.out, ← M.part_end]; exact HO.out.mono HB1.out.size, HB.out⟩
end Go.Proofs.YtlofnadpgnbmdaaGreat.V

namespace Go.Proofs.YtlofnadpgnbmdaaGreat.V
open Go.RowKit

set_option maxRecDepth 100000 in
set_option maxHeartbeats 400000 in
theorem timesB (a b : Int) (w : World) (ha : M.Big a) (hb : M.Big b) : Calls Tryz.prog 109 #[.int .i64 a, .int .i64 b] w fun e w' => e = .returned (.int .i64 (M.times a b)) ∧ w = w' := by
  have ba := M.big_bound ha
  have bb := M.big_bound hb
  clear ha hb
  obtain ⟨ba1, ba2⟩ := ba
  obtain ⟨bb1, bb2⟩ := bb
  by_cases h : a = -1000000000000000
  · subst h
    go_enter Tryz.func109, Tryz.ntmps109
    go_wp2
    all_goals go_ret; exact ⟨retI (by simp [M.times]), rfl⟩
  · have h' : (a == -1000000000000000) = false := by simpa using h
    by_cases h2 : b = -1000000000000000
    · subst h2
      go_enter Tryz.func109, Tryz.ntmps109
      go_wp2
      all_goals go_ret; exact ⟨retI (by simp [M.times]), rfl⟩
    · have h2' : (b == -1000000000000000) = false := by simpa using h2
      go_enter Tryz.func109, Tryz.ntmps109
      go_wp2
      all_goals go_ret; exact ⟨retI (by simp [M.times, h, h2]), rfl⟩

set_option maxRecDepth 100000 in
set_option maxHeartbeats 400000 in
theorem clTimes (a b : Int) (w : World) (ha : M.Big a) (hb : M.Big b) : Calls Tryz.prog 108 #[.int .i64 a, .int .i64 b] w fun e w' => e = .returned (.int .i64 (M.times a b)) ∧ w = w' := by
  have HA := Lib.hid ha
  have HB := Lib.hid hb
  clear ha hb
  go_enter Tryz.func108, Tryz.ntmps108
  go_wp2_with (first | (go_at_call 109; refine (timesB _ _ _ HA.out HB.out).mono ?_; rintro e w' ⟨rfl, rfl⟩))
  go_ret
  exact ⟨rfl, rfl⟩

theorem dot_one {R R' : List (List Int)} {i j : Nat} (h : M.Big (M.ent R i 0)) (h' : M.Big (M.ent R' 0 j)) : M.dot R R' i j 1 = M.times (M.ent R i 0) (M.ent R' 0 j) :=
  M.sumN_one (M.big_times_ge h h')

set_option maxRecDepth 100000 in
set_option maxHeartbeats 4000000 in
theorem multipliedB (a : Option Addr) (n cap N : Nat) (R : List (List Int)) (a' : Option Addr) (cap' L : Nat) (R' : List (List Int)) (w : World) (h : Mat w a n R) (h' : Mat w a' N R') (hr : Rect R n N) (hr' : Rect R' N L)
    (hR : ∀ i k, i < n → k < N → M.Big (M.ent R i k)) (hR' : ∀ k j, k < N → j < L → M.Big (M.ent R' k j)) (n1 : 1 ≤ n) (n2 : n ≤ 10) (N1 : 1 ≤ N) (N2 : N ≤ 10) (l1 : 1 ≤ L) (l2 : L ≤ 10) :
    Calls Tryz.prog 62 #[.slice a n cap, .slice a' N cap', .agg #[.func (.func 106) #[] #[], .func (.func 108) #[] #[]]] w (MPost n (M.mk n L (fun i j => M.dot R R' i j N)) w) := by
  obtain ⟨wb, hwb⟩ : ∃ wb, wb = w.alloc (.cells #[.func (.func 106) #[] #[], .func (.func 108) #[] #[]] 87) := ⟨_, rfl⟩
  have hsb : wb.heap.size = w.heap.size + 1 := by rw [hwb]; simp
  have hbw : Below w.heap.size w wb := by rw [hwb]; exact b_alloc _ _
  have k0 : wb.cell? ⟨w.heap.size, 0, none⟩ = some (.func (.func 106) #[] #[]) := by rw [hwb]; simp [go_sem]
  have k1 : wb.cell? ⟨w.heap.size, 1, none⟩ = some (.func (.func 108) #[] #[]) := by rw [hwb]; simp [go_sem]
  have HA := Lib.hid (h.below hbw)
  have HA' := Lib.hid (h'.below hbw)
  have HR := Lib.hid hr
  have HR' := Lib.hid hr'
  have HV := Lib.hid hR
  have HV' := Lib.hid hR'
  have HK0 := Lib.hid k0
  have HK1 := Lib.hid k1
  have HBW := Lib.hid hbw
  have HSB := Lib.hid hsb
  have HWB := Lib.hid hwb
  obtain ⟨b, off, -, -, rfl, -, -⟩ := h.rect_first hr (by omega)
  obtain ⟨b', off', -, -, rfl, -, -⟩ := h'.rect_first hr' (by omega)
  have hmk := run_make_row' (P := Tryz.prog) 28 43 (.slice none 0 0) 24 Tryz.underlying28 infoS64 rfl .i64 .i64 n (by omega) (by omega)
  have hmk2 := run_make_row' (P := Tryz.prog) 43 2 (.int .i64 0) 8 Tryz.underlying43 info64 rfl .i64 .i64 L (by omega) (by omega)
  have hO0 : Hid (OwnM (wb.alloc (.cells (madeCells #[.slice none 0 0] n) 43)) wb.heap.size (.slice (some ⟨wb.heap.size, 0, none⟩) n n) (M.part n L (fun i j => M.dot R R' i j N) 0)) := by
    rw [M.part_zero]; exact ownM_made wb _ n (Nat.le_refl _) (by unfold maxLen; omega)
  have HB0 : Hid (Below wb.heap.size wb (wb.alloc (.cells (madeCells #[.slice none 0 0] n) 43))) := b_alloc wb _
  clear h h' hr hr' hR hR' hwb hsb hbw k0 k1
  go_enter Tryz.func62, Tryz.ntmps62
  go_wp2
  go_loopw [18] (fun i wr => ∃ k : Nat, k ≤ n ∧ i = .int .i64 k ∧ OwnM wr (w.heap.size + 1) (.slice (some ⟨w.heap.size + 1, 0, none⟩) n n) (M.part n L (fun i j => M.dot R R' i j N) k) ∧ Below (w.heap.size + 1) wb wr) (fun i _ => n - (intOf i).toNat)
  case atStart =>
    refine ⟨0, Nat.zero_le _, rfl, ?_, ?_⟩
    · have := hO0.out
      rw [HSB.out, HWB.out] at this
      exact this
    · have := HB0.out
      rw [HSB.out] at this
      rw [HWB.out] at this ⊢
      exact this
  case round =>
    obtain ⟨k, hk, rfl, hO, hb⟩ := hrel
    obtain ⟨wo, rfl⟩ : ∃ x, x = wr := ⟨_, rfl⟩
    have HO := Lib.hid hO
    have HB := Lib.hid hb
    clear hO hb hO0 HB0
    by_cases hlt : k < n
    · have hki : (k : Int) < (n : Int) := by omega
      have hg := HO.out.lt rfl
      have hsz : w.heap.size + 1 ≤ wo.heap.size := by have := HB.out.size; have := HSB.out; omega
      have HBx : Hid (Below wb.heap.size wb wo) := by show Below _ _ _; rw [HSB.out]; exact HB.out
      obtain ⟨d, od, rr, rcr, hdd, hbr, hcr0, hIr⟩ := HA.out.rect_at HR.out k hlt
      injection hdd with hdd
      injection hdd with e1 e2
      subst e1 e2
      have hcr : wo.cell? ⟨b, off + k, none⟩ = some (.slice rr N rcr) := by rw [HBx.out.cell (p := ⟨b, off + k, none⟩) hbr]; exact hcr0
      have HIR := Lib.hid hIr
      obtain ⟨rrb, rro, x0, rfl, -, hx0, hcx⟩ := hIr.at 0 (by omega)
      obtain ⟨d, od, rf, rcf, hdd, -, hcf⟩ := (HA'.out.below HBx.out).rect_first HR'.out (by omega)
      injection hdd with hdd
      injection hdd with e1 e2
      subst e1 e2
      obtain ⟨v0, hv0⟩ := HO.out.outer k hlt
      have hfz0 := HO.out.outerFz k
      have hO2 := HO.out.setRow (b_alloc wo (.cells (madeCells #[.int .i64 0] L) 2)) hsz (own_made wo wo.heap.size L (Nat.le_refl _) (by unfold maxLen; omega)) k hlt
      rw [M.part_set] at hO2
      rw [World.setCell_alloc_past _ _ _ _ hg] at hO2
      have HO2 := Lib.hid hO2
      have hB2 := (((HB.out.alloc hsz (.cells (madeCells #[.int .i64 0] L) 2))).setCell (p := ⟨w.heap.size + 1, k, none⟩) (Nat.le_refl _) (.slice (some ⟨wo.heap.size, 0, none⟩) L L))
      rw [World.setCell_alloc_past _ _ _ _ hg] at hB2
      have HB2 := Lib.hid hB2
      clear hO2 hB2 hIr hx0 hcx hcr0
      go_wp2
      clear hv0 hfz0 hg hcf hcr
      go_loopw [36] (fun j wr => ∃ t : Nat, t ≤ L ∧ j = .int .i64 t ∧ OwnM wr (w.heap.size + 1) (.slice (some ⟨w.heap.size + 1, 0, none⟩) n n) (M.part2 n L (fun i j => M.dot R R' i j N) k t) ∧ Below (w.heap.size + 1) wb wr) (fun j _ => L - (intOf j).toNat)
      case atStart => exact ⟨0, Nat.zero_le _, rfl, HO2.out, HB2.out⟩
      case round =>
        obtain ⟨t, ht, rfl, hO, hb⟩ := hrel
        obtain ⟨wp, rfl⟩ : ∃ x, x = wr := ⟨_, rfl⟩
        have HOi := Lib.hid hO
        have HBi := Lib.hid hb
        clear hO hb HO2 HB2 HO
        by_cases htl : t < L
        · have hti : (t : Int) < (L : Int) := by omega
          have HBy : Hid (Below wb.heap.size wb wp) := by show Below _ _ _; rw [HSB.out]; exact HBi.out
          have q0 : wp.cell? ⟨w.heap.size, 0, none⟩ = some (.func (.func 106) #[] #[]) := by rw [HBi.out.cell (p := ⟨w.heap.size, 0, none⟩) (Nat.lt_succ_self _)]; exact HK0.out
          have q1 : wp.cell? ⟨w.heap.size, 1, none⟩ = some (.func (.func 108) #[] #[]) := by rw [HBi.out.cell (p := ⟨w.heap.size, 1, none⟩) (Nat.lt_succ_self _)]; exact HK1.out
          obtain ⟨rx, ro, x1, hrr, -, hx1, hcx1⟩ := (HIR.out.below HBy.out).at 0 (by omega)
          injection hrr with hrr
          injection hrr with e1 e2
          subst e1 e2
          rw [Nat.add_zero] at hcx1
          obtain ⟨d, od, rd, rdo, c4, x2, hdd, hx2, c41, c42⟩ := (HA'.out.below HBy.out).rect_ent HR'.out 0 t (by omega) htl
          injection hdd with hdd
          injection hdd with e1 e2
          subst e1 e2
          rw [Nat.add_zero] at c41
          have hx1' : x1 = M.ent R k 0 := hx1
          have HV1 : Hid (M.Big x1) := by show M.Big _; rw [hx1']; exact HV.out k 0 hlt (by omega)
          have HV2 : Hid (M.Big x2) := by show M.Big _; rw [hx2]; exact HV'.out 0 t (by omega) htl
          obtain ⟨s1, hs1⟩ : ∃ s1, s1 = M.dot R R' k t 1 := ⟨_, rfl⟩
          have HS1 := Lib.hid hs1
          have HC1 : ∀ w : World, Calls Tryz.prog 108 #[.int .i64 x1, .int .i64 x2] w fun e w' => e = .returned (.int .i64 s1) ∧ w = w' := by
            intro w
            rw [hs1, dot_one (HV.out k 0 hlt (by omega)) (HV'.out 0 t (by omega) htl), ← hx1', ← hx2]
            exact clTimes _ _ _ HV1.out HV2.out
          obtain ⟨g, q, L3, c3, x3, hgg, hg3, hq3, hL3, hx3, c31, c32, f31, ho3⟩ := HOi.out.at k t hlt (by rw [M.part2_rowlen _ _ _ _ _ hlt]; exact htl)
          injection hgg with hgg
          injection hgg with hgg
          subst hgg
          rw [M.part2_rowlen _ _ _ _ _ hlt] at hL3
          subst hL3
          have HN : Hid (OwnM (wp.setCell ⟨q, t, none⟩ (.int .i64 (M.dot R R' k t N))) (w.heap.size + 1) (.slice (some ⟨w.heap.size + 1, 0, none⟩) n n) (M.part2 n L3 (fun i j => M.dot R R' i j N) k (t + 1))) :=
            (congrArg (OwnM _ _ _) (M.part2_set _ _ (fun i j => M.dot R R' i j N) _ _ hlt)).mp (ho3 (M.dot R R' k t N))
          clear hs1 hx1 hx1' hx2 hx3 ho3
          go_wp2
          go_quiet ((go_at_call 108; exact q_one_s (HC1 _)))
          clear hcx1 c42 c41
          go_wp2
          go_loopw [11, 12] (fun sm l wr => ∃ u : Nat, 1 ≤ u ∧ u ≤ N ∧ l = .int .i64 u ∧ (∃ y, sm = .int .i64 y ∧ Hid (y = M.dot R R' k t u)) ∧ ∃ q, wr = wp.drewN q) (fun _ l _ => N - (intOf l).toNat)
          case atStart => exact ⟨1, Nat.le_refl _, N1, rfl, ⟨_, rfl, HS1⟩, _, rfl⟩
          case round =>
            obtain ⟨u, hu1, hu, rfl, ⟨y, rfl, HY⟩, q2, rfl⟩ := hrel
            by_cases hul : u < N
            · have hui : (u : Int) < (N : Int) := by omega
              obtain ⟨rx, ro, x1, hrr, -, hx1, hcx1⟩ := (HIR.out.below HBy.out).at u hul
              injection hrr with hrr
              injection hrr with e1 e2
              subst e1 e2
              obtain ⟨d, od, rd, rdo, c4, x2, hdd, hx2, c41, c42⟩ := (HA'.out.below HBy.out).rect_ent HR'.out u t hul htl
              injection hdd with hdd
              injection hdd with e1 e2
              subst e1 e2
              have hx1' : x1 = M.ent R k u := hx1
              have HV1 : Hid (M.Big x1) := by show M.Big _; rw [hx1']; exact HV.out k u hlt hul
              have HV2 : Hid (M.Big x2) := by show M.Big _; rw [hx2]; exact HV'.out u t hul htl
              obtain ⟨z, hz⟩ : ∃ z, z = M.times x1 x2 := ⟨_, rfl⟩
              obtain ⟨y2, hy2⟩ : ∃ y2, y2 = max y z := ⟨_, rfl⟩
              have HY2 : Hid (y2 = M.dot R R' k t (u + 1)) := by show _ = _; rw [hy2, hz, HY.out, hx1', hx2]; rfl
              have HC1 : ∀ w : World, Calls Tryz.prog 108 #[.int .i64 x1, .int .i64 x2] w fun e w' => e = .returned (.int .i64 z) ∧ w = w' := by
                intro w
                rw [hz]
                exact clTimes _ _ _ HV1.out HV2.out
              have HC2 : ∀ w : World, Calls Tryz.prog 106 #[.int .i64 y, .int .i64 z] w fun e w' => e = .returned (.int .i64 y2) ∧ w = w' := by
                intro w
                rw [hy2]
                exact clPlus _ _ _
              clear hx1 hx1' hx2 hz hy2
              go_wp2
              go_quiet (first | (go_at_call 108; exact q_more_s (HC1 _)) | (go_at_call 106; exact q_more_s (HC2 _)))
              go_wp2
              go_roundw
              case rel => exact ⟨u + 1, by omega, by omega, by go_num, ⟨_, rfl, HY2⟩, _, rfl⟩
              case measure => simp [intOf]; omega
            · obtain rfl : u = N := by omega
              go_wp2
              exact ⟨⟨t + 1, by omega, by go_num, by rw [HY.out]; exact HN.out.keep (fun _ _ _ => rfl), (below_drewN HBi.out _).setCell hq3 _⟩, by simp [intOf]; omega⟩
        · obtain rfl : t = L := by omega
          have hO2 := HOi.out
          rw [M.part2_end] at hO2
          have HO2 := Lib.hid hO2
          clear hO2
          go_wp2
          go_roundw
          case rel => exact ⟨k + 1, by omega, by go_num, HO2.out, HBi.out⟩
          case measure => simp [intOf]; omega
    · obtain rfl : k = n := by omega
      go_wp2
      go_ret
      refine ⟨_, _, rfl, ?_, ?_⟩
      · rw [← M.part_end]; exact HO.out.mono (Nat.le_succ _)
      · exact HBW.out.trans (HB.out.mono (Nat.le_succ _))
theorem multiplied (a : Option Addr) (n cap N : Nat) (R : List (List Int)) (a' : Option Addr) (cap' L : Nat) (R' : List (List Int)) (w : World) (h : Mat w a n R) (h' : Mat w a' N R') (hr : Rect R n N) (hr' : Rect R' N L)
    (hR : M.isMat R = true) (hR' : M.isMat R' = true) (n1 : 1 ≤ n) (n2 : n ≤ 10) (N1 : 1 ≤ N) (N2 : N ≤ 10) (l1 : 1 ≤ L) (l2 : L ≤ 10) :
    Calls Tryz.prog 62 #[.slice a n cap, .slice a' N cap', .agg #[.func (.func 106) #[] #[], .func (.func 108) #[] #[]]] w (MPost n (M.mk n L (fun i j => M.dot R R' i j N)) w) :=
  multipliedB a n cap N R a' cap' L R' w h h' hr hr' (fun i k hi hk => M.big_val (tm_val hR hr (by omega) hi hk)) (fun k j hk hj => M.big_val (tm_val hR' hr' (by omega) hk hj)) n1 n2 N1 N2 l1 l2
end Go.Proofs.YtlofnadpgnbmdaaGreat.V

namespace Go.Proofs.YtlofnadpgnbmdaaGreat.V
open Go.RowKit

set_option maxRecDepth 100000 in
set_option maxHeartbeats 4000000 in
theorem transposed (a : Option Addr) (n cap L : Nat) (R : List (List Int)) (w : World) (h : Mat w a n R) (hr : Rect R n L) (n1 : 1 ≤ n) (n2 : n ≤ 10) (l1 : 1 ≤ L) (l2 : L ≤ 10) :
    Calls Tryz.prog 152 #[.slice a n cap] w (MPost L (M.mk L n (fun i j => M.ent R j i)) w) := by
  have HA := Lib.hid h
  have HR := Lib.hid hr
  obtain ⟨b, off, ra, rc, rfl, hbw, hc⟩ := h.rect_first hr (by omega)
  have hmk := run_make_row' (P := Tryz.prog) 28 43 (.slice none 0 0) 24 Tryz.underlying28 infoS64 rfl .i64 .i64 L (by omega) (by omega)
  have hmk2 := run_make_row' (P := Tryz.prog) 43 2 (.int .i64 0) 8 Tryz.underlying43 info64 rfl .i64 .i64 n (by omega) (by omega)
  have hO0 : Hid (OwnM (w.alloc (.cells (madeCells #[.slice none 0 0] L) 43)) w.heap.size (.slice (some ⟨w.heap.size, 0, none⟩) L L) (M.part L n (fun i j => M.ent R j i) 0)) := by
    rw [M.part_zero]; exact ownM_made w _ L (Nat.le_refl _) (by unfold maxLen; omega)
  have HB0 : Hid (Below w.heap.size w (w.alloc (.cells (madeCells #[.slice none 0 0] L) 43))) := b_alloc w _
  clear h hr
  go_enter Tryz.func152, Tryz.ntmps152
  go_wp2
  clear hc
  go_loopw [14] (fun i wr => ∃ k : Nat, k ≤ L ∧ i = .int .i64 k ∧ OwnM wr w.heap.size (.slice (some ⟨w.heap.size, 0, none⟩) L L) (M.part L n (fun i j => M.ent R j i) k) ∧ Below w.heap.size w wr) (fun i _ => L - (intOf i).toNat)
  case atStart => exact ⟨0, Nat.zero_le _, rfl, hO0.out, HB0.out⟩
  case round =>
    obtain ⟨k, hk, rfl, hO, hb⟩ := hrel
    obtain ⟨wo, rfl⟩ : ∃ x, x = wr := ⟨_, rfl⟩
    have HO := Lib.hid hO
    have HB := Lib.hid hb
    clear hO hb hO0 HB0
    by_cases hlt : k < L
    · have hki : (k : Int) < (L : Int) := by omega
      have hg := HO.out.lt rfl
      have hsz := HB.out.size
      obtain ⟨v0, hv0⟩ := HO.out.outer k hlt
      have hfz0 := HO.out.outerFz k
      have hO2 := HO.out.setRow (b_alloc wo (.cells (madeCells #[.int .i64 0] n) 2)) hsz (own_made wo wo.heap.size n (Nat.le_refl _) (by unfold maxLen; omega)) k hlt
      rw [M.part_set] at hO2
      rw [World.setCell_alloc_past _ _ _ _ hg] at hO2
      have HO2 := Lib.hid hO2
      have hB2 := (((HB.out.alloc hsz (.cells (madeCells #[.int .i64 0] n) 2))).setCell (p := ⟨w.heap.size, k, none⟩) (Nat.le_refl _) (.slice (some ⟨wo.heap.size, 0, none⟩) n n))
      rw [World.setCell_alloc_past _ _ _ _ hg] at hB2
      have HB2 := Lib.hid hB2
      clear hO2 hB2
      go_wp2
      clear hv0 hfz0 hg
      go_loopw [25] (fun j wr => ∃ t : Nat, t ≤ n ∧ j = .int .i64 t ∧ OwnM wr w.heap.size (.slice (some ⟨w.heap.size, 0, none⟩) L L) (M.part2 L n (fun i j => M.ent R j i) k t) ∧ Below w.heap.size w wr) (fun j _ => n - (intOf j).toNat)
      case atStart => exact ⟨0, Nat.zero_le _, rfl, HO2.out, HB2.out⟩
      case round =>
        obtain ⟨t, ht, rfl, hO, hb⟩ := hrel
        have HOi := Lib.hid hO
        have HBi := Lib.hid hb
        clear hO hb HO2 HB2
        by_cases htl : t < n
        · have hti : (t : Int) < (n : Int) := by omega
          obtain ⟨g, q, L3, c3, x3, hgg, hg3, hq3, hL3, hx3, c31, c32, f31, ho3⟩ := HOi.out.at k t hlt (by rw [M.part2_rowlen _ _ _ _ _ hlt]; exact htl)
          injection hgg with hgg
          injection hgg with hgg
          subst hgg
          rw [M.part2_rowlen _ _ _ _ _ hlt] at hL3
          subst hL3
          obtain ⟨d, od, rd, ro, c4, x4, hdd, hx4, c41, c42⟩ := (HA.out.below HBi.out).rect_ent HR.out t k htl hlt
          injection hdd with hdd
          injection hdd with e1 e2
          subst e1 e2
          have HN : Hid (OwnM (wr.setCell ⟨q, t, none⟩ (.int .i64 x4)) w.heap.size (.slice (some ⟨w.heap.size, 0, none⟩) L L) (M.part2 L L3 (fun i j => M.ent R j i) k (t + 1))) :=
            (congrArg (OwnM _ _ _) (by rw [hx4]; exact M.part2_set _ _ (fun i j => M.ent R j i) _ _ hlt)).mp (ho3 x4)
          clear ho3 hx3 hx4
          go_wp2
          go_still_tail 10, (by kernel_rfl)
          change wpList _ _ _ _ _ wr.drew
          go_wp2
          go_roundw
          case rel => exact ⟨t + 1, by omega, by go_num, HN.out.keep (fun _ _ _ => rfl), HBi.out.drew.setCell hq3 _⟩
          case measure => simp [intOf]; omega
        · obtain rfl : t = n := by omega
          have hO2 := HOi.out
          rw [M.part2_end] at hO2
          have HO2 := Lib.hid hO2
          clear hO2
          go_wp2
          go_roundw
          case rel => exact ⟨k + 1, by omega, by go_num, HO2.out, HBi.out⟩
          case measure => simp [intOf]; omega
    · obtain rfl : k = L := by omega
      go_wp2
      go_ret
      exact ⟨_, _, rfl, by rw [← M.part_end]; exact HO.out, HB.out⟩


end Go.Proofs.YtlofnadpgnbmdaaGreat.V
