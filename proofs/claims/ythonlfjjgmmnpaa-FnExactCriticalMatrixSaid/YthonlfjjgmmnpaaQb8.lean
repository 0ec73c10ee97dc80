/- Texts laid together: SMul, IAdd. -/
import Derived.Test.YthonlfjjgmmnpaaRows
import Derived.Test.YthonlfjjgmmnpaaQb1
import Derived.Test.YthonlfjjgmmnpaaQb2
import Derived.WalkKit
import Derived.ProofKit
import Derived.WalkSmall
import Derived.Deep.QuietTactic
import Derived.BigQuiet
import Derived.BigRegion
import Derived.Deep.Draws
import Derived.Lib.Hide
import Derived.OpenShut
import Derived.Deep.OwnRows
import Derived.Test.YthonlfjjgmmnpaaQb3
import Derived.Test.YthonlfjjgmmnpaaQb4
import Derived.Test.YthonlfjjgmmnpaaQb7
import Derived.StillTailTactics
namespace Go.Proofs.Ythonlfjjgmmnpaa.V
open Go.RowKit

theorem tm_val {R : List (List Int)} {n L : Nat} (hR : M.isMat R = true) (hr : Rect R n L) (hn : 0 < n) {i j : Nat} (hi : i < n) (hj : j < L) : M.isVal (M.ent R i j) = true :=
  M.isMat_val hR (by rw [hr.1]; exact hi) (by rw [hr.wid hn]; exact hj)

set_option maxRecDepth 100000 in
set_option maxHeartbeats 400000 in
theorem sTimesB (a b : Int) (w : World) (ha : M.Big a) (hb : M.Big b) : Calls Try.prog 79 #[.int .i64 a, .int .i64 b] w fun e w' => e = .returned (.int .i64 (M.times a b)) ∧ w = w' := by
  have ba := M.big_bound ha
  have bb := M.big_bound hb
  clear ha hb
  obtain ⟨ba1, ba2⟩ := ba
  obtain ⟨bb1, bb2⟩ := bb
  by_cases h : a = -1000000000000000
  · subst h
    go_enter Try.func79, Try.ntmps79
    go_wp2
    all_goals go_ret; exact ⟨retI (by simp [M.times]), rfl⟩
  · have h' : (a == -1000000000000000) = false := by simpa using h
    by_cases h2 : b = -1000000000000000
    · subst h2
      go_enter Try.func79, Try.ntmps79
      go_wp2
      all_goals go_ret; exact ⟨retI (by simp [M.times]), rfl⟩
    · have h2' : (b == -1000000000000000) = false := by simpa using h2
      go_enter Try.func79, Try.ntmps79
      go_wp2
      all_goals go_ret; exact ⟨retI (by simp [M.times, h, h2]), rfl⟩

/-- The entries that are done, the one that is being summed, and those still Bottom. -/
def M.mulS (R R' : List (List Int)) (N i j k : Nat) (s t : Nat) : Int :=
  if s < i ∨ (s = i ∧ t < j) then M.dot R R' s t N else if s = i ∧ t = j then M.dot R R' s t k else -1000000000000000

set_option maxRecDepth 100000 in
set_option maxHeartbeats 4000000 in
theorem sMultiplyB (a : Option Addr) (n cap N : Nat) (R : List (List Int)) (a' : Option Addr) (cap' L : Nat) (R' : List (List Int)) (w : World) (h : Mat w a n R) (h' : Mat w a' N R') (hr : Rect R n N) (hr' : Rect R' N L)
    (hR : ∀ i k, i < n → k < N → M.Big (M.ent R i k)) (hR' : ∀ k j, k < N → j < L → M.Big (M.ent R' k j)) (n1 : 1 ≤ n) (n2 : n ≤ 10) (N1 : 1 ≤ N) (N2 : N ≤ 10) (l1 : 1 ≤ L) (l2 : L ≤ 10) :
    Calls Try.prog 64 #[.slice a n cap, .slice a' N cap'] w (MPost n (M.mk n L (fun i j => M.dot R R' i j N)) w) := by
  have HA := Lib.hid h
  have HA' := Lib.hid h'
  have HR := Lib.hid hr
  have HR' := Lib.hid hr'
  have HV := Lib.hid hR
  have HV' := Lib.hid hR'
  obtain ⟨b', off', ra', rc', rfl, -, hc'⟩ := h'.rect_first hr' (by omega)
  clear h h' hr hr' hR hR'
  go_enter Try.func64, Try.ntmps64
  go_wp2_with fail
  refine (sBottom n L _ (by omega) (by omega)).mono ?_
  rintro e w1 ⟨a2, cap2, rfl, ho, hb⟩
  have HO0 : Hid (OwnM w1 w.heap.size (.slice a2 n cap2) (M.mk n L (M.mulS R R' N 0 0 0))) :=
    (congrArg (OwnM _ _ _) (M.mk_congr fun i _ j _ => by
      unfold M.mulS
      rw [if_neg (by omega)]
      by_cases e : i = 0 ∧ j = 0
      · rw [if_pos e]; rfl
      · rw [if_neg e])).mp ho
  have HB0 := Lib.hid hb
  clear ho hb
  go_wp2
  go_loopw [6] (fun i wr => ∃ k : Nat, k ≤ n ∧ i = .int .i64 k ∧ OwnM wr w.heap.size (.slice a2 n cap2) (M.mk n L (M.mulS R R' N k 0 0)) ∧ Below w.heap.size w wr) (fun i _ => n - (intOf i).toNat)
  case atStart => exact ⟨0, Nat.zero_le _, rfl, HO0.out, HB0.out⟩
  case round =>
    obtain ⟨k, hk, rfl, hO, hb⟩ := hrel
    obtain ⟨wo, rfl⟩ : ∃ x, x = wr := ⟨_, rfl⟩
    have HO := Lib.hid hO
    have HB := Lib.hid hb
    clear hO hb HO0 HB0
    by_cases hlt : k < n
    · have hki : (k : Int) < (n : Int) := by omega
      go_wp2
      go_loopw [7] (fun j wr => ∃ t : Nat, t ≤ L ∧ j = .int .i64 t ∧ OwnM wr w.heap.size (.slice a2 n cap2) (M.mk n L (M.mulS R R' N k t 0)) ∧ Below w.heap.size w wr) (fun j _ => L - (intOf j).toNat)
      case atStart => exact ⟨0, Nat.zero_le _, rfl, HO.out, HB.out⟩
      case round =>
        obtain ⟨t, ht, rfl, hO, hb⟩ := hrel
        obtain ⟨wp, rfl⟩ : ∃ x, x = wr := ⟨_, rfl⟩
        have HOi := Lib.hid hO
        have HBi := Lib.hid hb
        clear hO hb HB HO
        have hc2 : wp.cell? ⟨b', off', none⟩ = some (.slice ra' L rc') := by
          obtain ⟨d, od, rd, rcd, hdd, hbd, hcd⟩ := HA'.out.rect_first HR'.out (by omega)
          injection hdd with hdd
          injection hdd with e1 e2
          subst e1 e2
          rw [HBi.out.cell (p := ⟨b', off', none⟩) hbd]
          exact hc'
        by_cases htl : t < L
        · have hti : (t : Int) < (L : Int) := by omega
          go_wp2
          go_loopw [8] (fun l wr => ∃ u : Nat, u ≤ N ∧ l = .int .i64 u ∧ OwnM wr w.heap.size (.slice a2 n cap2) (M.mk n L (M.mulS R R' N k t u)) ∧ Below w.heap.size w wr) (fun l _ => N - (intOf l).toNat)
          case atStart => exact ⟨0, Nat.zero_le _, rfl, HOi.out, HBi.out⟩
          case round =>
            obtain ⟨u, hu, rfl, hO, hb⟩ := hrel
            have HOj := Lib.hid hO
            have HBj := Lib.hid hb
            clear hO hb HBi HOi hc2
            by_cases hul : u < N
            · have hui : (u : Int) < (N : Int) := by omega
              obtain ⟨g, q, L3, c3, x3, rfl, hg3, hq3, hL3, hx3, c31, c32, f31, ho3⟩ := HOj.out.at k t hlt (by rw [M.mk_rowlen _ _ _ _ hlt]; exact htl)
              rw [M.mk_rowlen _ _ _ _ hlt] at hL3
              subst hL3
              rw [M.mk_ent _ _ _ _ _ hlt htl] at hx3
              obtain ⟨d, od, rd, ro, c4, x4, rfl, hx4, c41, c42⟩ := (HA.out.below HBj.out).rect_ent HR.out k u hlt hul
              obtain ⟨d', od', rd', ro', c5, x5, hdd, hx5, c51, c52⟩ := (HA'.out.below HBj.out).rect_ent HR'.out u t hul htl
              injection hdd with hdd
              injection hdd with e1 e2
              subst e1 e2
              have hv4 : M.Big x4 := by rw [hx4]; exact HV.out k u hlt hul
              have hv5 : M.Big x5 := by rw [hx5]; exact HV'.out u t hul htl
              have HV4 := Lib.hid hv4
              have HV5 := Lib.hid hv5
              obtain ⟨y, hy⟩ : ∃ y, y = M.times x4 x5 := ⟨_, rfl⟩
              have HN : Hid (OwnM (wr.setCell ⟨q, t, none⟩ (.int .i64 (if x3 < y then y else x3))) w.heap.size (.slice (some ⟨g, 0, none⟩) n cap2) (M.mk n L3 (M.mulS R R' N k t (u + 1)))) := by
                refine (congrArg (OwnM _ _ _) ?_).mp (ho3 (if x3 < y then y else x3))
                rw [M.mk_set _ _ _ _ _ _ hlt]
                refine M.mk_congr fun i _ j _ => ?_
                rw [← M.ifmax, hx3, hy, hx4, hx5]
                unfold M.mulS
                rw [if_neg (show ¬(k < k ∨ k = k ∧ t < t) by omega), if_pos (show k = k ∧ t = t from ⟨rfl, rfl⟩)]
                by_cases e : i = k
                · subst e
                  rw [if_pos rfl]
                  by_cases e2 : j = t
                  · subst e2
                    rw [if_pos rfl, if_neg (show ¬(i < i ∨ i = i ∧ j < j) by omega), if_pos (show i = i ∧ j = j from ⟨rfl, rfl⟩)]
                    rfl
                  · rw [if_neg e2]
                    by_cases e3 : i < i ∨ i = i ∧ j < t
                    · rw [if_pos e3, if_pos e3]
                    · rw [if_neg e3, if_neg e3, if_neg (by omega), if_neg (by omega)]
                · rw [if_neg e]
                  by_cases e3 : i < k ∨ i = k ∧ j < t
                  · rw [if_pos e3, if_pos e3]
                  · rw [if_neg e3, if_neg e3, if_neg (by omega), if_neg (by omega)]
              have HC : ∀ w : World, Calls Try.prog 79 #[.int .i64 x4, .int .i64 x5] w fun e w' => e = .returned (.int .i64 y) ∧ w = w' := by
                intro w
                rw [hy]
                exact sTimesB _ _ _ HV4.out HV5.out
              clear ho3 hx3 hx4 hx5 hv4 hv5 hy
              go_wp2
              go_still_tail 29, (by kernel_rfl)
              still_call (st_of (HC _))
              repeat still_step
              refine wpStill_nil ?_
              change wpList _ _ _ _ _ wr.drew
              go_wp2
              first
                | exact ⟨⟨u + 1, by omega, by go_num, HN.out.keep (fun _ _ _ => rfl), HBj.out.drew.setCell hq3 _⟩, by simp [intOf]; omega⟩
                | (go_roundw
                   case rel => exact ⟨u + 1, by omega, by go_num, HN.out.keep (fun _ _ _ => rfl), HBj.out.drew.setCell hq3 _⟩
                   case measure => simp [intOf]; omega)
            · obtain rfl : u = N := by omega
              have HO2 : Hid (OwnM wr w.heap.size (.slice a2 n cap2) (M.mk n L (M.mulS R R' u k (t + 1) 0))) :=
                (congrArg (OwnM _ _ _) (M.mk_congr fun i hi j _ => by
                  unfold M.mulS
                  by_cases e : i < k ∨ i = k ∧ j < t
                  · rw [if_pos e, if_pos (by omega)]
                  · rw [if_neg e]
                    by_cases e2 : i = k ∧ j = t
                    · rw [if_pos e2, if_pos (by omega)]
                    · rw [if_neg e2, if_neg (by omega)]
                      by_cases e3 : i = k ∧ j = t + 1
                      · rw [if_pos e3]; rfl
                      · rw [if_neg e3])).mp HOj.out
              go_wp2
              go_roundw
              case rel => exact ⟨t + 1, by omega, by go_num, HO2.out, HBj.out⟩
              case measure => simp [intOf]; omega
        · obtain rfl : t = L := by omega
          have HO2 : Hid (OwnM wp w.heap.size (.slice a2 n cap2) (M.mk n t (M.mulS R R' N (k + 1) 0 0))) :=
            (congrArg (OwnM _ _ _) (M.mk_congr fun i hi j hj => by
              unfold M.mulS
              by_cases e : i < k ∨ i = k ∧ j < t
              · rw [if_pos e, if_pos (by omega)]
              · rw [if_neg e, if_neg (by omega), if_neg (by omega)]
                by_cases e3 : i = k + 1 ∧ j = 0
                · rw [if_pos e3]; rfl
                · rw [if_neg e3])).mp HOi.out
          go_wp2
          go_roundw
          case rel => exact ⟨k + 1, by omega, by go_num, HO2.out, HBi.out⟩
          case measure => simp [intOf]; omega
    · obtain rfl : k = n := by omega
      go_wp2
      go_ret
      exact ⟨_, _, rfl, (congrArg (OwnM _ _ _) (M.mk_congr fun i hi j _ => by unfold M.mulS; rw [if_pos (.inl hi)])).mp HO.out, HB.out⟩
theorem sMultiply (a : Option Addr) (n cap N : Nat) (R : List (List Int)) (a' : Option Addr) (cap' L : Nat) (R' : List (List Int)) (w : World) (h : Mat w a n R) (h' : Mat w a' N R') (hr : Rect R n N) (hr' : Rect R' N L)
    (hR : M.isMat R = true) (hR' : M.isMat R' = true) (n1 : 1 ≤ n) (n2 : n ≤ 10) (N1 : 1 ≤ N) (N2 : N ≤ 10) (l1 : 1 ≤ L) (l2 : L ≤ 10) :
    Calls Try.prog 64 #[.slice a n cap, .slice a' N cap'] w (MPost n (M.mk n L (fun i j => M.dot R R' i j N)) w) :=
  sMultiplyB a n cap N R a' cap' L R' w h h' hr hr' (fun i k hi hk => M.big_val (tm_val hR hr (by omega) hi hk)) (fun k j hk hj => M.big_val (tm_val hR' hr' (by omega) hk hj)) n1 n2 N1 N2 l1 l2
end Go.Proofs.Ythonlfjjgmmnpaa.V

namespace Go.Proofs.Ythonlfjjgmmnpaa.V
open Go.RowKit

set_option maxRecDepth 100000 in
set_option maxHeartbeats 400000 in
theorem clPlus (a b : Int) (w : World) : Calls Try.prog 104 #[.int .i64 a, .int .i64 b] w fun e w' => e = .returned (.int .i64 (max a b)) ∧ w = w' := by
  go_enter Try.func104, Try.ntmps104
  go_wp2_with (first | (go_at_call 105; refine (plus _ _ _).mono ?_; rintro e w' ⟨rfl, rfl⟩))
  go_ret
  exact ⟨rfl, rfl⟩

/-- The pair of operations. -/
theorem maxPlus (w : World) : Calls Try.prog 74 #[] w fun e w' => e = .returned (.agg #[.func (.func 104) #[] #[], .func (.func 106) #[] #[]]) ∧ Below w.heap.size w w' := by
  have hst : ∀ (w : World) (a : Addr) (f : Fn), (store a (.func f #[] #[])).run Try.prog w = stored Try.prog w a (.func f #[] #[]) .plain := fun w a f => run_store _ w a _ _ rfl
  go_enter Try.func74, Try.ntmps74
  go_wp2
  exact bodyPost_ret (v := .agg #[.func (.func 104) #[] #[], .func (.func 106) #[] #[]]) (by simp [results, Try.results74, go_sem]) rfl ⟨rfl, b_alloc _ _⟩

theorem fld0 (w : World) (f g : Fn) : (Instr.field 85 (.agg #[.func f #[] #[], .func g #[] #[]]) 0).run Try.prog w = .ok (.func f #[] #[]) w := by
  simp [Instr.field, part, asAgg, go_sem]
end Go.Proofs.Ythonlfjjgmmnpaa.V
