/- StarMatrix and PlusMatrix in the model: every case. -/
import Derived.Test.YtfdckijililomaaClo4
namespace Go.Proofs.Ytfdckijililomaa.V
open Go.RowKit

set_option maxRecDepth 100000 in
set_option maxHeartbeats 400000 in
theorem sResult (a : Option Addr) (n cap : Nat) (R : List (List Int)) (b : Bool) (hb : M.isMat R = b) (w : World) (h : Mat w a n R) :
    Calls Try.prog 135 #[.slice a n cap] w fun e w' => e = .returned (if b then .tuple #[.slice a n cap, .int .i64 0] else .tuple #[.slice none 0 0, .int .i64 3]) ∧ ∃ q, w' = w.drewN q := by
  have HA := Lib.hid h
  have HB := Lib.hid hb
  clear h hb
  cases b with
  | true =>
    go_enter Try.func135, Try.ntmps135
    go_wp2_with (go_at_call 99; refine (sIsMatrix_b _ _ _ R _ true HB.out HA.out).mono ?_; rintro e w' ⟨rfl, q, rfl⟩)
    go_ret2
    exact ⟨rfl, _, rfl⟩
  | false =>
    go_enter Try.func135, Try.ntmps135
    go_wp2_with (go_at_call 99; refine (sIsMatrix_b _ _ _ R _ false HB.out HA.out).mono ?_; rintro e w' ⟨rfl, q, rfl⟩)
    go_ret2
    exact ⟨rfl, _, rfl⟩

set_option maxRecDepth 100000 in
set_option maxHeartbeats 1000000 in
theorem sStarMatrix (a : Option Addr) (n cap : Nat) (R : List (List Int)) (w : World) (h : Mat w a n R) :
    Calls Try.prog 73 #[.slice a n cap] w (MRes (M.starRes R) w) := by
  have HA := Lib.hid h
  by_cases hs : M.sqB R = true
  · have HS := Lib.hid hs
    have HQ := Lib.hid (sq_of h hs)
    have HSm := Lib.hid (sq_of h hs).2.2.1
    obtain ⟨-, -, -, n1, n2⟩ := sq_of h hs
    have HL := Lib.hid h.1
    by_cases hp : M.noPos (M.ent R) n = true
    · have HP := Lib.hid hp
      have HC : ∀ w1, Below w.heap.size w w1 → Calls Try.prog 106 #[.slice a n cap] w1 fun e w' => ∃ b c, e = .returned (.tuple #[.slice b n c, .bool true]) ∧ OwnM w' w1.heap.size (.slice b n c) (M.starM R n) ∧ Below w1.heap.size w1 w' := by
        intro w1 hb
        have := sStar a n cap R w1 (HQ.out.below hb)
        rw [hp, M.bm_star n2 HSm.out hp] at this
        exact this
      obtain ⟨b, hb⟩ : ∃ b, b = M.isMat (M.starM R n) := ⟨_, rfl⟩
      have HM := Lib.hid hb.symm
      have HE : Hid (M.starRes R = if b then (M.starM R n, 0) else ([], 3)) := by
        show _ = _; rw [hb]; unfold M.starRes; rw [hs, HL.out, hp]; rfl
      clear h hs hp hb
      cases b with
      | true =>
        go_enter Try.func73, Try.ntmps73
        go_wp2_with (first | (go_at_call 86; refine (sSquare_b _ _ _ R _ true HS.out HA.out).mono ?_; rintro e w' ⟨rfl, q, rfl⟩) | (go_at_call 106; refine (HC _ (b_draws _ _)).mono ?_; rintro e w1 ⟨a2, cap2, rfl, hO, hb⟩; have HO := Lib.hid (hO.mono (b_draws w q).size); have HB := Lib.hid (bnext (b_draws w q) hb); clear hO hb) | (go_at_call 135; refine (sResult _ _ _ _ true HM.out _ HO.out.mat).mono ?_; rintro e w' ⟨rfl, q2, rfl⟩))
        go_ret2
        rw [HE.out]
        exact ⟨_, _, _, rfl, HO.out.below (b_draws _ _), below_drewN HB.out _⟩
      | false =>
        go_enter Try.func73, Try.ntmps73
        go_wp2_with (first | (go_at_call 86; refine (sSquare_b _ _ _ R _ true HS.out HA.out).mono ?_; rintro e w' ⟨rfl, q, rfl⟩) | (go_at_call 106; refine (HC _ (b_draws _ _)).mono ?_; rintro e w1 ⟨a2, cap2, rfl, hO, hb⟩; have HO := Lib.hid (hO.mono (b_draws w q).size); have HB := Lib.hid (bnext (b_draws w q) hb); clear hO hb) | (go_at_call 135; refine (sResult _ _ _ _ false HM.out _ HO.out.mat).mono ?_; rintro e w' ⟨rfl, q2, rfl⟩))
        go_ret2
        exact MRes.nil HE.out (below_drewN HB.out _)
    · simp only [Bool.not_eq_true] at hp
      have HC : ∀ w1, Below w.heap.size w w1 → Calls Try.prog 106 #[.slice a n cap] w1 fun e w' => ∃ b c, e = .returned (.tuple #[.slice b n c, .bool false]) ∧ OwnM w' w1.heap.size (.slice b n c) (M.bmM R n n) ∧ Below w1.heap.size w1 w' := by
        intro w1 hb
        have := sStar a n cap R w1 (HQ.out.below hb)
        rw [hp] at this
        exact this
      have HE : Hid (M.starRes R = ([], 5)) := by
        show _ = _; unfold M.starRes; rw [hs, HL.out, hp]; rfl
      clear h hs hp
      go_enter Try.func73, Try.ntmps73
      go_wp2_with (first | (go_at_call 86; refine (sSquare_b _ _ _ R _ true HS.out HA.out).mono ?_; rintro e w' ⟨rfl, q, rfl⟩) | (go_at_call 106; refine (HC _ (b_draws _ _)).mono ?_; rintro e w1 ⟨a2, cap2, rfl, hO, hb⟩; have HB := Lib.hid (bnext (b_draws w q) hb); clear hO hb))
      go_ret2
      exact MRes.nil HE.out HB.out
  · simp only [Bool.not_eq_true] at hs
    have HS := Lib.hid hs
    have HE : Hid (M.starRes R = ([], 1)) := by show _ = _; unfold M.starRes; rw [hs]; rfl
    clear h hs
    go_enter Try.func73, Try.ntmps73
    go_wp2_with (go_at_call 86; refine (sSquare_b _ _ _ R _ false HS.out HA.out).mono ?_; rintro e w' ⟨rfl, q, rfl⟩)
    go_ret2
    exact MRes.nil HE.out (b_draws _ _)

set_option maxRecDepth 100000 in
set_option maxHeartbeats 1000000 in
theorem sPlusMatrix (a : Option Addr) (n cap : Nat) (R : List (List Int)) (w : World) (h : Mat w a n R) :
    Calls Try.prog 75 #[.slice a n cap] w (MRes (M.plusRes R) w) := by
  have HA := Lib.hid h
  by_cases hs : M.sqB R = true
  · have HS := Lib.hid hs
    have HQ := Lib.hid (sq_of h hs)
    have HSm := Lib.hid (sq_of h hs).2.2.1
    obtain ⟨-, -, -, n1, n2⟩ := sq_of h hs
    have HL := Lib.hid h.1
    by_cases hp : M.noPos (M.ent R) n = true
    · have HP := Lib.hid hp
      have HC : ∀ w1, Below w.heap.size w w1 → Calls Try.prog 106 #[.slice a n cap] w1 fun e w' => ∃ b c, e = .returned (.tuple #[.slice b n c, .bool true]) ∧ OwnM w' w1.heap.size (.slice b n c) (M.bmM R n n) ∧ Below w1.heap.size w1 w' := by
        intro w1 hb
        have := sStar a n cap R w1 (HQ.out.below hb)
        rw [hp] at this
        exact this
      have HC2 : ∀ w1 b c, Below w.heap.size w w1 → OwnM w1 w.heap.size (.slice b n c) (M.bmM R n n) → Calls Try.prog 136 #[.slice a n cap, .slice b n c] w1 (MPost n (M.plusM R n) w1) := by
        intro w1 b c hb ho
        have := sMultiplyB a n cap n R b c n (M.bmM R n n) w1 (HQ.out.1.below hb) ho.mat HQ.out.2.1 (rect_mk _ _ _) (fun i j hi hj => M.big_sm (HSm.out i j hi hj) (by omega)) (fun i j hi hj => M.bm_big HSm.out (by omega) hi hj) n1 n2 n1 n2 n1 n2
        rw [M.bm_plus n2 HSm.out HP.out] at this
        exact this
      obtain ⟨b, hb⟩ : ∃ b, b = M.isMat (M.plusM R n) := ⟨_, rfl⟩
      have HM := Lib.hid hb.symm
      have HE : Hid (M.plusRes R = if b then (M.plusM R n, 0) else ([], 3)) := by
        show _ = _; rw [hb]; unfold M.plusRes; rw [hs, HL.out, hp]; rfl
      clear h hs hp hb
      cases b with
      | true =>
        go_enter Try.func75, Try.ntmps75
        go_wp2_with (first | (go_at_call 86; refine (sSquare_b _ _ _ R _ true HS.out HA.out).mono ?_; rintro e w' ⟨rfl, q, rfl⟩) | (go_at_call 106; refine (HC _ (b_draws _ _)).mono ?_; rintro e w1 ⟨a2, cap2, rfl, hO, hb⟩; have HO := Lib.hid (hO.mono (b_draws w q).size); have HB := Lib.hid (bnext (b_draws w q) hb); clear hO hb) | (go_at_call 136; refine (HC2 _ _ _ HB.out HO.out).mono ?_; rintro e w2 ⟨a3, cap3, rfl, hO, hb⟩; have HO3 := Lib.hid (hO.mono HB.out.size); have HB3 := Lib.hid (bnext HB.out hb); clear hO hb) | (go_at_call 135; refine (sResult _ _ _ _ true HM.out _ HO3.out.mat).mono ?_; rintro e w' ⟨rfl, q2, rfl⟩))
        go_ret2
        rw [HE.out]
        exact ⟨_, _, _, rfl, HO3.out.below (b_draws _ _), below_drewN HB3.out _⟩
      | false =>
        go_enter Try.func75, Try.ntmps75
        go_wp2_with (first | (go_at_call 86; refine (sSquare_b _ _ _ R _ true HS.out HA.out).mono ?_; rintro e w' ⟨rfl, q, rfl⟩) | (go_at_call 106; refine (HC _ (b_draws _ _)).mono ?_; rintro e w1 ⟨a2, cap2, rfl, hO, hb⟩; have HO := Lib.hid (hO.mono (b_draws w q).size); have HB := Lib.hid (bnext (b_draws w q) hb); clear hO hb) | (go_at_call 136; refine (HC2 _ _ _ HB.out HO.out).mono ?_; rintro e w2 ⟨a3, cap3, rfl, hO, hb⟩; have HO3 := Lib.hid (hO.mono HB.out.size); have HB3 := Lib.hid (bnext HB.out hb); clear hO hb) | (go_at_call 135; refine (sResult _ _ _ _ false HM.out _ HO3.out.mat).mono ?_; rintro e w' ⟨rfl, q2, rfl⟩))
        go_ret2
        exact MRes.nil HE.out (below_drewN HB3.out _)
    · simp only [Bool.not_eq_true] at hp
      have HC : ∀ w1, Below w.heap.size w w1 → Calls Try.prog 106 #[.slice a n cap] w1 fun e w' => ∃ b c, e = .returned (.tuple #[.slice b n c, .bool false]) ∧ OwnM w' w1.heap.size (.slice b n c) (M.bmM R n n) ∧ Below w1.heap.size w1 w' := by
        intro w1 hb
        have := sStar a n cap R w1 (HQ.out.below hb)
        rw [hp] at this
        exact this
      have HE : Hid (M.plusRes R = ([], 5)) := by
        show _ = _; unfold M.plusRes; rw [hs, HL.out, hp]; rfl
      clear h hs hp
      go_enter Try.func75, Try.ntmps75
      go_wp2_with (first | (go_at_call 86; refine (sSquare_b _ _ _ R _ true HS.out HA.out).mono ?_; rintro e w' ⟨rfl, q, rfl⟩) | (go_at_call 106; refine (HC _ (b_draws _ _)).mono ?_; rintro e w1 ⟨a2, cap2, rfl, hO, hb⟩; have HB := Lib.hid (bnext (b_draws w q) hb); clear hO hb))
      go_ret2
      exact MRes.nil HE.out HB.out
  · simp only [Bool.not_eq_true] at hs
    have HS := Lib.hid hs
    have HE : Hid (M.plusRes R = ([], 1)) := by show _ = _; unfold M.plusRes; rw [hs]; rfl
    clear h hs
    go_enter Try.func75, Try.ntmps75
    go_wp2_with (go_at_call 86; refine (sSquare_b _ _ _ R _ false HS.out HA.out).mono ?_; rintro e w' ⟨rfl, q, rfl⟩)
    go_ret2
    exact MRes.nil HE.out (b_draws _ _)
end Go.Proofs.Ytfdckijililomaa.V
