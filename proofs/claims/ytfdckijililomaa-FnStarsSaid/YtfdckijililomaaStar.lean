/- Stars, plainly: the three answers of a matrix together; drawn matrices. -/
import Derived.Test.YtfdckijililomaaMatQ
import Derived.Test.YtfdckijililomaaMatR
import Derived.Test.YtfdckijililomaaGr2
import Derived.Test.YtfdckijililomaaD3b
namespace Go.Proofs.Ytfdckijililomaa.M
theorem star_sum {R : List (List Int)} {n : Nat} (hn : n ≤ 10) (hA : ∀ i j, i < n → j < n → Sm 1000001000000 (ent R i j)) (h : noPos (ent R) n = true) : mk n n (fun i j => max (ent (unitM n) i j) (ent (plusM R n) i j)) = starM R n := by
  refine mk_congr fun i hi j hj => ?_
  unfold unitM plusM
  rw [ent_mk _ _ _ _ _ hi hj, ent_mk _ _ _ _ _ hi hj]
  unfold starF
  by_cases e : i = j
  · subst e
    rw [if_pos rfl, if_pos rfl]
    have hd := ofw_diag (fun i j => o (ent R i j)) n (o_diag hn hA h) i hi
    rw [← o_cfw hn hA (Nat.le_refl _) (fun _ hu => noPos_t h hu) i i hi hi, show some (0 : Int) = o 0 from rfl] at hd
    have := (o_le (cfw_big hn hA (Nat.le_refl _) (fun _ hu => noPos_t h hu) i i hi hi) (.inr (by omega)) (by omega)).1 hd
    omega
  · rw [if_neg e, if_neg e]
    have := sm_ge (cfw_big hn hA (Nat.le_refl _) (fun _ hu => noPos_t h hu) i j hi hj) (by omega)
    omega
theorem star_cases (R : List (List Int)) :
    ((starRes R).2 = 1 ∧ (posRes R).2 = 1) ∨ ((starRes R).2 = 5 ∧ (posRes R).2 = 0) ∨ ((starRes R).2 = 3 ∧ (posRes R).2 = 4) ∨ ((starRes R).2 = 0 ∧ (posRes R).2 = 4 ∧ (plusRes R).2 = 3) ∨
    ((starRes R).2 = 0 ∧ (posRes R).2 = 4 ∧ (plusRes R).2 = 0 ∧ (unitRes R.length).2 = 0 ∧ addRes (unitRes R.length).1 (plusRes R).1 = ((starRes R).1, 0)) := by
  by_cases hs : sqB R = true
  · obtain ⟨h1, h2⟩ := sqB_t hs
    obtain ⟨m1, m2, m3, m4, m5, m6⟩ := isMat_t h1
    have hA : ∀ i j, i < R.length → j < R.length → Sm 1000001000000 (ent R i j) := fun i j hi hj => sm_wide (sm_val (m6 i hi j (by rw [← h2]; exact hj)))
    by_cases hp : noPos (ent R) R.length = true
    · have h0 := over_none m2 hA hp
      have hC : (posRes R).2 = 4 := by unfold posRes; rw [if_pos hs, if_pos h0]
      by_cases hm : isMat (starM R R.length) = true
      · have hS : starRes R = (starM R R.length, 0) := by unfold starRes; rw [if_pos hs, if_pos hp, if_pos hm]
        by_cases hq : isMat (plusM R R.length) = true
        · have hP : plusRes R = (plusM R R.length, 0) := by unfold plusRes; rw [if_pos hs, if_pos hp, if_pos hq]
          have hU : unitRes R.length = (unitM R.length, 0) := by
            unfold unitRes
            rw [if_pos ⟨by omega, by omega⟩, Int.toNat_natCast]
          refine .inr (.inr (.inr (.inr ⟨by rw [hS], hC, by rw [hP], by rw [hU], ?_⟩)))
          rw [hU, hP, hS]
          have l1 : (unitM R.length).length = R.length := mk_length _ _ _
          have l2 : (plusM R R.length).length = R.length := mk_length _ _ _
          have w1 : wid (unitM R.length) = R.length := mk_wid _ _ _ (by omega)
          have w2 : wid (plusM R R.length) = R.length := mk_wid _ _ _ (by omega)
          unfold addRes
          rw [unitM_ok m1 m2, hq, if_pos (by rfl), if_pos ⟨by rw [l1, l2], by rw [w1, w2]⟩]
          unfold addM
          rw [l1, w1, star_sum m2 hA hp]
        · have hP : (plusRes R).2 = 3 := by unfold plusRes; rw [if_pos hs, if_pos hp, if_neg hq]
          exact .inr (.inr (.inr (.inl ⟨by rw [hS], hC, hP⟩)))
      · have hS : (starRes R).2 = 3 := by unfold starRes; rw [if_pos hs, if_pos hp, if_neg hm]
        exact .inr (.inr (.inl ⟨hS, hC⟩))
    · have h0 := over_some m2 hA (by simpa using hp)
      exact .inr (.inl ⟨by unfold starRes; rw [if_pos hs, if_neg hp], by unfold posRes; rw [if_pos hs, if_neg h0]⟩)
  · exact .inl ⟨by unfold starRes; rw [if_neg hs], by unfold posRes; rw [if_neg hs]⟩
end Go.Proofs.Ytfdckijililomaa.M
namespace Go.Proofs.Ytfdckijililomaa.V
open Go.RowKit
set_option maxRecDepth 100000 in
set_option maxHeartbeats 1000000 in
theorem drawStarMatrix (a : Option Addr) (n cap : Nat) (w : World) (h : Bytes w a n) :
    Calls Try.prog 71 #[.slice a n cap] w (DrawnM w) := by
  have HB := Lib.hid h
  clear h
  go_enter Try.func71, Try.ntmps71
  go_wp2_with fail
  refine (from_ _ _ _ _ HB.out).mono ?_
  rintro e w1 ⟨rfl, hs1, hb1⟩
  have HS1 := Lib.hid hs1
  have HB1 := Lib.hid hb1
  clear hs1 hb1
  go_wp2_with fail
  refine (draw3 _ _ HS1.out).mono ?_
  rintro e w2 ⟨a2, n2, c2, R, rfl, -, ho, hs2, ht2⟩
  have HO := Lib.hid ho.mat
  have HB2 := Lib.hid (HB1.out.trans ht2.below)
  clear ho hs2 ht2
  go_wp2
  go_ret
  exact ⟨a2, n2, c2, R, rfl, HO.out, HB2.out⟩
end Go.Proofs.Ytfdckijililomaa.V
