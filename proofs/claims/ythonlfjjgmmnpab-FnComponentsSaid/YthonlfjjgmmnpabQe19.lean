/- Texts laid together: Clo3. -/
import Derived.Test.YthonlfjjgmmnpabQe18
namespace Go.Proofs.Ythonlfjjgmmnpab.V
open Go.RowKit

/-- The matrix whose diagonal is 0 before row k. -/
def M.diaF (A : Nat → Nat → Int) (n k i j : Nat) : Int := if i = j ∧ i < k then 0 else M.cfw A n i j
set_option maxRecDepth 100000 in
set_option maxHeartbeats 1000000 in
theorem starOf (a : Option Addr) (n cap : Nat) (R : List (List Int)) (w : World) (h : Sq w a n R) :
    Calls Try.prog 97 #[.slice a n cap] w (CPost (M.starL R n) w) := by
  have HS := Lib.hid h
  obtain ⟨n1, n2⟩ := h.2.2.2
  clear h
  obtain ⟨r, hr⟩ : ∃ r, r = M.plusL R n := ⟨_, rfl⟩
  have HC : Calls Try.prog 121 #[.slice a n cap] w (CPost r w) := by rw [hr]; exact plusOf _ _ _ _ _ HS.out
  by_cases hp : M.noPos (M.ent R) n = true
  · have hr2 : r = (M.plusM R n, true) := by rw [hr]; unfold M.plusL; rw [hp]; rfl
    have HF : Hid (M.starL R n = (M.starM R n, true)) := by show _ = _; unfold M.starL; rw [hp]; rfl
    clear hr hp
    subst hr2
    go_enter Try.func97, Try.ntmps97
    go_wp2_with fail
    refine HC.mono ?_
    rintro e w1 ⟨a2, m, cap2, rfl, hO, hb⟩
    obtain rfl : m = n := by have := hO.len; simpa [M.plusM] using this
    have HO0 : Hid (OwnM w1 w.heap.size (.slice a2 m cap2) (M.mk m m (M.diaF (M.ent R) m 0))) :=
      (congrArg (OwnM _ _ _) (M.mk_congr fun i _ j _ => by unfold M.diaF; rw [if_neg (by omega)])).mp hO
    have HB0 := Lib.hid hb
    clear hO hb HC
    go_wp2
    go_loopw [6, 14] (fun _ i wr => ∃ k : Nat, k ≤ m ∧ i = .int .i64 k ∧ OwnM wr w.heap.size (.slice a2 m cap2) (M.mk m m (M.diaF (M.ent R) m k)) ∧ Below w.heap.size w wr) (fun _ i _ => m - (intOf i).toNat)
    case atStart => exact ⟨0, Nat.zero_le _, rfl, HO0.out, HB0.out⟩
    case round =>
      obtain ⟨k, hk, rfl, hO, hb⟩ := hrel
      have HO := Lib.hid hO
      have HB := Lib.hid hb
      clear hO hb HO0 HB0
      by_cases hlt : k < m
      · obtain ⟨g, q, L, c, x, rfl, hg, hq, hL, hx, h1, h2, h3, h4⟩ := HO.out.at k k hlt (by rw [M.mk_rowlen _ _ _ _ hlt]; exact hlt)
        rw [M.mk_rowlen _ _ _ _ hlt] at hL
        obtain rfl : m = L := hL.symm
        have hN := h4 0
        rw [M.mk_set _ _ _ _ _ _ hlt] at hN
        have HN := Lib.hid hN
        have hki : (k : Int) < (m : Int) := by omega
        clear hx h4 hN
        go_wp2
        go_roundw
        case rel =>
          refine ⟨k + 1, by omega, by go_num, (congrArg (OwnM _ _ _) (M.mk_congr fun i _ j _ => ?_)).mp HN.out, HB.out.setCell hq _⟩
          unfold M.diaF
          by_cases e : i = k
          · subst e
            by_cases e2 : j = i
            · subst e2; simp
            · rw [if_pos rfl, if_neg e2, if_neg (by omega), if_neg (by omega)]
          · rw [if_neg e]
            by_cases e2 : i = j ∧ i < k
            · rw [if_pos e2, if_pos (by omega)]
            · rw [if_neg e2, if_neg (by omega)]
        case measure => simp [intOf]; omega
      · obtain rfl : k = m := by omega
        go_wp2
        go_ret2
        rw [HF.out]
        refine ⟨_, _, _, rfl, (congrArg (OwnM _ _ _) (M.mk_congr fun i hi j _ => ?_)).mp HO.out, HB.out⟩
        unfold M.diaF M.starF
        by_cases e : i = j
        · rw [if_pos ⟨e, hi⟩, if_pos e]
        · rw [if_neg (by omega), if_neg e]
  · simp only [Bool.not_eq_true] at hp
    have hr2 : r = ([], false) := by rw [hr]; unfold M.plusL; rw [hp]; rfl
    have HF : Hid (M.starL R n = ([], false)) := by show _ = _; unfold M.starL; rw [hp]; rfl
    clear hr hp
    subst hr2
    go_enter Try.func97, Try.ntmps97
    go_wp2_with fail
    refine HC.mono ?_
    rintro e w1 ⟨a2, m, cap2, rfl, hO, hb⟩
    obtain rfl : m = 0 := by have := hO.len; simpa using this
    have HB0 := Lib.hid hb
    have HO0 := Lib.hid hO
    clear hO hb HC
    go_wp2
    go_loop [14] (fun i => i = .int .i64 0) (fun _ => 0)
    case atStart => rfl
    case round =>
      subst hrel
      go_wp2
      go_ret2
      rw [HF.out]
      exact ⟨_, _, _, rfl, HO0.out, HB0.out⟩



end Go.Proofs.Ythonlfjjgmmnpab.V
