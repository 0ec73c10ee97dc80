/- StarMatrix and PlusMatrix, in the program: every case. -/
import Derived.Test.YtfdckijililomaaClo2
namespace Go.Proofs.Ytfdckijililomaa.V
open Go.RowKit

/-- The matrix whose diagonal is 0 before row k. -/
def M.diaF (A : Nat → Nat → Int) (n k i j : Nat) : Int := if i = j ∧ i < k then 0 else M.cfw A n i j
set_option maxRecDepth 100000 in
set_option maxHeartbeats 1000000 in
theorem starOf (a : Option Addr) (n cap : Nat) (R : List (List Int)) (w : World) (h : Sq w a n R) :
    Calls Try.prog 134 #[.slice a n cap] w (CPost (M.starL R n) w) := by
  have HS := Lib.hid h
  obtain ⟨n1, n2⟩ := h.2.2.2
  clear h
  obtain ⟨r, hr⟩ : ∃ r, r = M.plusL R n := ⟨_, rfl⟩
  have HC : Calls Try.prog 123 #[.slice a n cap] w (CPost r w) := by rw [hr]; exact plusOf _ _ _ _ _ HS.out
  by_cases hp : M.noPos (M.ent R) n = true
  · have hr2 : r = (M.plusM R n, true) := by rw [hr]; unfold M.plusL; rw [hp]; rfl
    have HF : Hid (M.starL R n = (M.starM R n, true)) := by show _ = _; unfold M.starL; rw [hp]; rfl
    clear hr hp
    subst hr2
    go_enter Try.func134, Try.ntmps134
    go_wp2_with fail
    refine HC.mono ?_
    rintro e w1 ⟨a2, m, cap2, rfl, hO, hb⟩
    obtain rfl : m = n := by have := hO.len; simpa [M.plusM] using this
    have HO0 : Hid (OwnM w1 w.heap.size (.slice a2 m cap2) (M.mk m m (M.diaF (M.ent R) m 0))) :=
      (congrArg (OwnM _ _ _) (M.mk_congr fun i _ j _ => by unfold M.diaF; rw [if_neg (by omega)])).mp hO
    have HB0 := Lib.hid hb
    clear hO hb HC
    go_wp2
    go_loopw [6, 14] (fun _ i wr => ∃ k : Nat, k ≤ m ∧ i = .int .i64 k ∧ OwnM wr w.heap.size (.slice a2 m cap2) (M.mk m m (M.diaF (M.ent R) m k)) ∧ Below w.heap.size w wr) (fun _ i _ => m - (intOf i).toNat)
    case atStart => exact ⟨0, Nat.zero_le _, rfl, HO0.out, HB0.out⟩
    case round =>
      obtain ⟨k, hk, rfl, hO, hb⟩ := hrel
      have HO := Lib.hid hO
      have HB := Lib.hid hb
      clear hO hb HO0 HB0
      by_cases hlt : k < m
      · obtain ⟨g, q, L, c, x, rfl, hg, hq, hL, hx, h1, h2, h3, h4⟩ := HO.out.at k k hlt (by rw [M.mk_rowlen _ _ _ _ hlt]; exact hlt)
        rw [M.mk_rowlen _ _ _ _ hlt] at hL
        obtain rfl : m = L := hL.symm
        have hN := h4 0
        rw [M.mk_set _ _ _ _ _ _ hlt] at hN
        have HN := Lib.hid hN
        have hki : (k : Int) < (m : Int) := by omega
        clear hx h4 hN
        go_wp2
        go_roundw
        case rel =>
          refine ⟨k + 1, by omega, by go_num, (congrArg (OwnM _ _ _) (M.mk_congr fun i _ j _ => ?_)).mp HN.out, HB.out.setCell hq _⟩
          unfold M.diaF
          by_cases e : i = k
          · subst e
            by_cases e2 : j = i
            · subst e2; simp
            · rw [if_pos rfl, if_neg e2, if_neg (by omega), if_neg (by omega)]
          · rw [if_neg e]
            by_cases e2 : i = j ∧ i < k
            · rw [if_pos e2, if_pos (by omega)]
            · rw [if_neg e2, if_neg (by omega)]
        case measure => simp [intOf]; omega
      · obtain rfl : k = m := by omega
        go_wp2
        go_ret2
        rw [HF.out]
        refine ⟨_, _, _, rfl, (congrArg (OwnM _ _ _) (M.mk_congr fun i hi j _ => ?_)).mp HO.out, HB.out⟩
        unfold M.diaF M.starF
        by_cases e : i = j
        · rw [if_pos ⟨e, hi⟩, if_pos e]
        · rw [if_neg (by omega), if_neg e]
  · simp only [Bool.not_eq_true] at hp
    have hr2 : r = ([], false) := by rw [hr]; unfold M.plusL; rw [hp]; rfl
    have HF : Hid (M.starL R n = ([], false)) := by show _ = _; unfold M.starL; rw [hp]; rfl
    clear hr hp
    subst hr2
    go_enter Try.func134, Try.ntmps134
    go_wp2_with fail
    refine HC.mono ?_
    rintro e w1 ⟨a2, m, cap2, rfl, hO, hb⟩
    obtain rfl : m = 0 := by have := hO.len; simpa using this
    have HB0 := Lib.hid hb
    have HO0 := Lib.hid hO
    clear hO hb HC
    go_wp2
    go_loop [14] (fun i => i = .int .i64 0) (fun _ => 0)
    case atStart => rfl
    case round =>
      subst hrel
      go_wp2
      go_ret2
      rw [HF.out]
      exact ⟨_, _, _, rfl, HO0.out, HB0.out⟩

set_option maxRecDepth 100000 in
set_option maxHeartbeats 400000 in
theorem checkedClosure (a : Option Addr) (n cap : Nat) (R : List (List Int)) (ok b : Bool) (hb : M.isMat R = b) (w : World) (h : Mat w a n R) :
    Calls Try.prog 133 #[.slice a n cap, .bool ok] w fun e w' => e = .returned (if ok then (if b then .tuple #[.slice a n cap, .int .i64 0] else .tuple #[.slice none 0 0, .int .i64 3]) else .tuple #[.slice none 0 0, .int .i64 5]) ∧ w = w' := by
  have HA := Lib.hid h
  have HB := Lib.hid hb
  clear h hb
  cases ok with
  | true =>
    cases b with
    | true =>
      go_enter Try.func133, Try.ntmps133
      go_wp2_with (go_at_call 101; refine (isMatrix_b _ _ _ R _ true HB.out HA.out).mono ?_; rintro e w' ⟨rfl, rfl⟩)
      go_ret2
      exact ⟨rfl, rfl⟩
    | false =>
      go_enter Try.func133, Try.ntmps133
      go_wp2_with (go_at_call 101; refine (isMatrix_b _ _ _ R _ false HB.out HA.out).mono ?_; rintro e w' ⟨rfl, rfl⟩)
      go_ret2
      exact ⟨rfl, rfl⟩
  | false =>
    go_enter Try.func133, Try.ntmps133
    go_wp2
    go_ret2
    exact ⟨rfl, rfl⟩

set_option maxRecDepth 100000 in
set_option maxHeartbeats 1000000 in
theorem starMatrix (a : Option Addr) (n cap : Nat) (R : List (List Int)) (w : World) (h : Mat w a n R) :
    Calls Try.prog 72 #[.slice a n cap] w (MRes (M.starRes R) w) := by
  have HA := Lib.hid h
  by_cases hs : M.sqB R = true
  · have HS := Lib.hid hs
    have HQ := Lib.hid (sq_of h hs)
    obtain ⟨r, hr⟩ : ∃ r, r = M.starL R n := ⟨_, rfl⟩
    have HC : Calls Try.prog 134 #[.slice a n cap] w (CPost r w) := by rw [hr]; exact starOf _ _ _ _ _ HQ.out
    obtain ⟨b, hb⟩ : ∃ b, b = M.isMat r.1 := ⟨_, rfl⟩
    have HM := Lib.hid hb.symm
    have HE : Hid (M.starRes R = if r.2 then (if b then (r.1, 0) else ([], 3)) else ([], 5)) := by
      show _ = _; rw [hb, hr]; unfold M.starRes M.starL; rw [hs, h.1]
      cases M.noPos (M.ent R) n <;> rfl
    clear h hs hr hb
    obtain ⟨r1, ok⟩ := r
    cases ok with
    | true =>
      cases b with
      | true =>
        go_enter Try.func72, Try.ntmps72
        go_wp2_with (first | (go_at_call 93; refine (isSquare_b _ _ _ R _ true HS.out HA.out).mono ?_; rintro e w' ⟨rfl, rfl⟩) | (go_at_call 134; refine HC.mono ?_; rintro e w1 ⟨a2, m, cap2, rfl, hO, hb⟩; have HO := Lib.hid hO; have HB := Lib.hid hb; clear hO hb) | (go_at_call 133; refine (checkedClosure _ _ _ r1 true true HM.out _ HO.out.mat).mono ?_; rintro e w' ⟨rfl, rfl⟩))
        go_ret2
        rw [HE.out]
        exact ⟨_, _, _, rfl, HO.out, HB.out⟩
      | false =>
        go_enter Try.func72, Try.ntmps72
        go_wp2_with (first | (go_at_call 93; refine (isSquare_b _ _ _ R _ true HS.out HA.out).mono ?_; rintro e w' ⟨rfl, rfl⟩) | (go_at_call 134; refine HC.mono ?_; rintro e w1 ⟨a2, m, cap2, rfl, hO, hb⟩; have HO := Lib.hid hO; have HB := Lib.hid hb; clear hO hb) | (go_at_call 133; refine (checkedClosure _ _ _ r1 true false HM.out _ HO.out.mat).mono ?_; rintro e w' ⟨rfl, rfl⟩))
        go_ret2
        exact MRes.nil HE.out HB.out
    | false =>
      go_enter Try.func72, Try.ntmps72
      go_wp2_with (first | (go_at_call 93; refine (isSquare_b _ _ _ R _ true HS.out HA.out).mono ?_; rintro e w' ⟨rfl, rfl⟩) | (go_at_call 134; refine HC.mono ?_; rintro e w1 ⟨a2, m, cap2, rfl, hO, hb⟩; have HO := Lib.hid hO; have HB := Lib.hid hb; clear hO hb) | (go_at_call 133; refine (checkedClosure _ _ _ r1 false b HM.out _ HO.out.mat).mono ?_; rintro e w' ⟨rfl, rfl⟩))
      go_ret2
      exact MRes.nil HE.out HB.out
  · simp only [Bool.not_eq_true] at hs
    have HS := Lib.hid hs
    have HE : Hid (M.starRes R = ([], 1)) := by show _ = _; unfold M.starRes; rw [hs]; rfl
    clear h hs
    go_enter Try.func72, Try.ntmps72
    go_wp2_with (go_at_call 93; refine (isSquare_b _ _ _ R _ false HS.out HA.out).mono ?_; rintro e w' ⟨rfl, rfl⟩)
    go_ret2
    exact MRes.nil HE.out (Below.refl _ _)

set_option maxRecDepth 100000 in
set_option maxHeartbeats 1000000 in
theorem plusMatrix (a : Option Addr) (n cap : Nat) (R : List (List Int)) (w : World) (h : Mat w a n R) :
    Calls Try.prog 74 #[.slice a n cap] w (MRes (M.plusRes R) w) := by
  have HA := Lib.hid h
  by_cases hs : M.sqB R = true
  · have HS := Lib.hid hs
    have HQ := Lib.hid (sq_of h hs)
    obtain ⟨r, hr⟩ : ∃ r, r = M.plusL R n := ⟨_, rfl⟩
    have HC : Calls Try.prog 123 #[.slice a n cap] w (CPost r w) := by rw [hr]; exact plusOf _ _ _ _ _ HQ.out
    obtain ⟨b, hb⟩ : ∃ b, b = M.isMat r.1 := ⟨_, rfl⟩
    have HM := Lib.hid hb.symm
    have HE : Hid (M.plusRes R = if r.2 then (if b then (r.1, 0) else ([], 3)) else ([], 5)) := by
      show _ = _; rw [hb, hr]; unfold M.plusRes M.plusL; rw [hs, h.1]
      cases M.noPos (M.ent R) n <;> rfl
    clear h hs hr hb
    obtain ⟨r1, ok⟩ := r
    cases ok with
    | true =>
      cases b with
      | true =>
        go_enter Try.func74, Try.ntmps74
        go_wp2_with (first | (go_at_call 93; refine (isSquare_b _ _ _ R _ true HS.out HA.out).mono ?_; rintro e w' ⟨rfl, rfl⟩) | (go_at_call 123; refine HC.mono ?_; rintro e w1 ⟨a2, m, cap2, rfl, hO, hb⟩; have HO := Lib.hid hO; have HB := Lib.hid hb; clear hO hb) | (go_at_call 133; refine (checkedClosure _ _ _ r1 true true HM.out _ HO.out.mat).mono ?_; rintro e w' ⟨rfl, rfl⟩))
        go_ret2
        rw [HE.out]
        exact ⟨_, _, _, rfl, HO.out, HB.out⟩
      | false =>
        go_enter Try.func74, Try.ntmps74
        go_wp2_with (first | (go_at_call 93; refine (isSquare_b _ _ _ R _ true HS.out HA.out).mono ?_; rintro e w' ⟨rfl, rfl⟩) | (go_at_call 123; refine HC.mono ?_; rintro e w1 ⟨a2, m, cap2, rfl, hO, hb⟩; have HO := Lib.hid hO; have HB := Lib.hid hb; clear hO hb) | (go_at_call 133; refine (checkedClosure _ _ _ r1 true false HM.out _ HO.out.mat).mono ?_; rintro e w' ⟨rfl, rfl⟩))
        go_ret2
        exact MRes.nil HE.out HB.out
    | false =>
      go_enter Try.func74, Try.ntmps74
      go_wp2_with (first | (go_at_call 93; refine (isSquare_b _ _ _ R _ true HS.out HA.out).mono ?_; rintro e w' ⟨rfl, rfl⟩) | (go_at_call 123; refine HC.mono ?_; rintro e w1 ⟨a2, m, cap2, rfl, hO, hb⟩; have HO := Lib.hid hO; have HB := Lib.hid hb; clear hO hb) | (go_at_call 133; refine (checkedClosure _ _ _ r1 false b HM.out _ HO.out.mat).mono ?_; rintro e w' ⟨rfl, rfl⟩))
      go_ret2
      exact MRes.nil HE.out HB.out
  · simp only [Bool.not_eq_true] at hs
    have HS := Lib.hid hs
    have HE : Hid (M.plusRes R = ([], 1)) := by show _ = _; unfold M.plusRes; rw [hs]; rfl
    clear h hs
    go_enter Try.func74, Try.ntmps74
    go_wp2_with (go_at_call 93; refine (isSquare_b _ _ _ R _ false HS.out HA.out).mono ?_; rintro e w' ⟨rfl, rfl⟩)
    go_ret2
    exact MRes.nil HE.out (Below.refl _ _)
end Go.Proofs.Ytfdckijililomaa.V
