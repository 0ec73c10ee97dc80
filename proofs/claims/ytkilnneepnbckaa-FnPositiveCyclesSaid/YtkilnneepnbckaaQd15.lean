/- Texts laid together: Hv2, Mat1, Mark. -/
import Derived.Test.YtkilnneepnbckaaQd14
import Derived.Test.YtkilnneepnbckaaQd7
import Derived.Deep.RegionHeld3
import Derived.Test.YtkilnneepnbckaaRows
import Derived.Test.YtkilnneepnbckaaQd1
import Derived.Test.YtkilnneepnbckaaQd2
import Derived.WalkKit
import Derived.ProofKit
import Derived.WalkSmall
import Derived.Deep.QuietTactic
import Derived.BigQuiet
import Derived.BigRegion
import Derived.Deep.Draws
import Derived.Lib.Hide
import Derived.OpenShut
import Derived.Deep.OwnRows
set_option linter.unusedSimpArgs false
set_option linter.unusedVariables false
set_option linter.unusedSectionVars false
namespace Go.Proofs.Ytkilnneepnbckaa.V
open Go.RowKit

theorem ints_lit2 (w : World) (x y : Int) : Ints .i64 (w.alloc (.cells #[.int .i64 x, .int .i64 y] 2)) (some ⟨w.heap.size, 0, none⟩) 2 [x, y] := by
  refine ⟨rfl, by decide, .inr ⟨_, _, rfl, by simp, fun i hi => ?_⟩⟩
  rcases (show i = 0 ∨ i = 1 by omega) with rfl | rfl <;> simp
theorem own_lit1 (w : World) (B : Nat) (x : Int) (hB : B ≤ w.heap.size) : Own (w.alloc (.cells #[.int .i64 x] 2)) B (.slice (some ⟨w.heap.size, 0, none⟩) 1 1) [x] :=
  World.ownsRow_lit w #[.int .i64 x] 1 hB (by decide) rfl

/-- Three cells, and all that lay there before, outlive a step. -/
theorem keep3h {B : Nat} {w0 w1 w2 : World} {a1 a2 a3 : Addr} {v1 v2 v3 : Value} (h : w1.cell? a1 = some v1 ∧ w1.cell? a2 = some v2 ∧ w1.cell? a3 = some v3 ∧ Below B w0 w1) (h1 : a1.block < B) (h2 : a2.block < B) (h3 : a3.block < B) (hb : Below B w1 w2) :
    w2.cell? a1 = some v1 ∧ w2.cell? a2 = some v2 ∧ w2.cell? a3 = some v3 ∧ Below B w0 w2 :=
  ⟨by rw [hb.cell h1]; exact h.1, by rw [hb.cell h2]; exact h.2.1, by rw [hb.cell h3]; exact h.2.2.1, h.2.2.2.trans hb⟩
theorem below4 {B : Nat} {w0 w1 : World} {A1 A2 A3 : Prop} (h : A1 ∧ A2 ∧ A3 ∧ Below B w0 w1) : Below B w0 w1 := h.2.2.2
set_option maxRecDepth 100000 in
set_option maxHeartbeats 2000000 in
theorem heaviest_ok (a : Option Addr) (n cap : Nat) (R : List (List Int)) (f t : Nat) (w : World) (h : Mat w a n R) (hs : M.sqB R = true) (hf : f < n) (ht : t < n) (hp : M.noPos (M.ent R) n = true) (hst : M.starF (M.ent R) n t f ≠ -1000000000000000) :
    Calls Try.prog 28 #[.slice a n cap, .int .i64 f, .int .i64 t] w (VRes (M.hvL (M.ent R) n t (M.arcs (M.ent R) n f t) f (M.arcs (M.ent R) n f t + 1), 0) w) := by
  have HA := Lib.hid h
  have HS := Lib.hid hs
  have HQ := Lib.hid (sq_of h hs)
  have HSm := Lib.hid (sq_of h hs).2.2.1
  obtain ⟨-, -, -, n1, n2⟩ := sq_of h hs
  obtain ⟨s, hsd⟩ : ∃ s, s = M.arcs (M.ent R) n f t := ⟨_, rfl⟩
  obtain ⟨k1, k2, k3⟩ := M.arcs_is n2 HSm.out hp hf ht hst
  rw [← hsd] at k1 k2 k3 ⊢
  obtain ⟨y, hy⟩ : ∃ y, y = M.starF (M.ent R) n t f := ⟨_, rfl⟩
  rw [← hy] at k1 k3 hst
  have hy0 : (y == -1000000000000000) = false := by simpa using hst
  have HN : Hid (M.nodesB n [(f : Int), (t : Int)] = true) := by
    show _ = _
    simp [M.nodesB, M.inN]; omega
  have HC : Calls Try.prog 57 #[.slice a n cap] (w.alloc (.cells #[.int .i64 f, .int .i64 t] 2)) (CPost (M.starM R n, true) (w.alloc (.cells #[.int .i64 f, .int .i64 t] 2))) := by
    have := starOf a n cap R _ (HQ.out.below (b_alloc w (.cells #[.int .i64 f, .int .i64 t] 2)))
    unfold M.starL at this
    rw [hp] at this
    exact this
  have HK1 := Lib.hid k1
  have HK3 := Lib.hid k3
  have HY := Lib.hid hy
  have HF1 : Hid (M.cpw (M.ent R) n s t f ≠ -1000000000000000) := by show _ ≠ _; rw [k1]; exact hst
  have hfi : (f : Int) < (n : Int) := by omega
  have hti : (t : Int) < (n : Int) := by omega
  clear h hs hp hst k1 k3 hy hsd
  go_enter Try.func28, Try.ntmps28
  go_wp2_with (first | (go_at_call 55; refine (isSquare_b _ _ _ R _ true HS.out HA.out).mono ?_; rintro e w' ⟨rfl, rfl⟩) | (go_at_call 71; refine (areNodes_b _ n _ _ _ _ _ _ true HN.out (by omega) (ints_lit2 _ _ _)).mono ?_; rintro e w' ⟨rfl, rfl⟩))
  refine HC.mono ?_
  rintro e w1 ⟨a2, m, cap2, rfl, hO, hb⟩
  obtain rfl : m = n := by have := hO.len; simpa [M.starM] using this
  have HB1 := Lib.hid (bel1 hb)
  obtain ⟨g, q, L, c, x, rfl, -, -, hL, hx, c1, c2, -, -⟩ := hO.at t f ht (by rw [show (M.starM R m, true).1 = M.mk m m (M.starF (M.ent R) m) from rfl, M.mk_rowlen _ _ _ _ ht]; exact hf)
  have hx2 : x = y := by
    rw [hx, HY.out]
    exact M.mk_ent _ _ _ _ _ ht hf
  subst hx2
  rw [show (M.starM R m, true).1 = M.mk m m (M.starF (M.ent R) m) from rfl, M.mk_rowlen _ _ _ _ ht] at hL
  subst hL
  clear hO hb HC hx
  go_wp2_with fail
  refine (weightsTo _ _ _ R f t s _ _ (HQ.out.below HB1.out) hf ht k2 HK1.out HK3.out).mono ?_
  rintro e w2 ⟨b3, c3, rfl, hW, hb⟩
  have HW := Lib.hid hW
  have HB2 := Lib.hid (bnext HB1.out hb)
  have hz2 : w.heap.size ≤ w2.heap.size := HB2.out.size
  have HP0 : Hid (Own (w2.alloc (.cells #[.int .i64 (f : Int)] 2)) w2.heap.size (.slice (some ⟨w2.heap.size, 0, none⟩) 1 1) (M.hvL (M.ent R) L t s f 1)) := own_lit1 w2 _ _ (Nat.le_refl _)
  clear c1 c2 hW hb
  have hsz : (((s : Int) + 1) - 2) = (s : Int) - 1 := by omega
  go_wp2
  go_loopw [11, 12, 13] (fun o i _ wr => ∃ (k : Nat) (b : Option Addr) (c : Nat) (z : Int), k ≤ s ∧ z = (s : Int) - 1 - (k : Int) ∧ i = .int .i64 z ∧ o = .slice b (k + 1) c ∧ Own wr w2.heap.size (.slice b (k + 1) c) (M.hvL (M.ent R) L t s f (k + 1)) ∧ Below w2.heap.size w2 wr) (fun o _ _ _ => match o with | .slice _ k _ => s + 1 - k | _ => 0)
  case atStart => exact ⟨0, _, _, _, Nat.zero_le _, by omega, rfl, rfl, HP0.out, b_alloc _ _⟩
  case round =>
    obtain ⟨k, b, c, z, hk, hz, rfl, rfl, hO, hb⟩ := hrel
    obtain ⟨wo, rfl⟩ : ∃ x, x = wr := ⟨_, rfl⟩
    have HO := Lib.hid hO
    have HB := Lib.hid hb
    have hzo : w2.heap.size ≤ wo.heap.size := hb.size
    clear hO hb HP0
    by_cases hlt : k < s
    · obtain ⟨u, rfl⟩ : ∃ u : Nat, z = (u : Int) := ⟨z.toNat, by omega⟩
      have hu : u + 1 + k = s := by omega
      obtain ⟨hx1, hx2⟩ := M.xs_inv HSm.out k2 ht hf HF1.out k (by omega)
      rw [show s - k = u + 1 by omega] at hx2
      obtain ⟨hn1, hn2, hn3⟩ := M.nxt_is HSm.out (s := u) (by omega) ht hx1 hx2
      have hxs : M.xs (M.ent R) L t s f (k + 1) = M.nxt (M.ent R) L t u (M.xs (M.ent R) L t s f k) := by
        show M.nxt _ _ _ (s - 1 - k) _ = _
        rw [show s - 1 - k = u by omega]
      obtain ⟨d, od, x1, rfl, -, hx1', cx⟩ := HO.out.ints'.at k (by omega)
      rw [M.hvL_at _ _ _ _ _ _ _ (by omega)] at hx1'
      obtain ⟨xk, hxk⟩ : ∃ xk, xk = M.xs (M.ent R) L t s f k := ⟨_, rfl⟩
      rw [← hxk] at hx1' hx1 hx2 hn1 hn2 hn3 hxs
      subst hx1'
      have hxi : (xk : Int) < (L : Int) := by omega
      obtain ⟨g4, r4, rc4, hg4, cr4, hr4⟩ := (HW.out.below HB.out).row u (by omega)
      obtain ⟨g5, r5, rc5, hg5, cr5, hr5⟩ := (HW.out.below HB.out).row (u + 1) (by omega)
      rw [M.wt_row _ _ _ _ _ (by omega), List.length_map, List.length_range] at cr4 hr4 cr5 hr5
      subst hg4
      injection hg5 with hg5
      injection hg5 with hg5
      subst hg5
      obtain ⟨d6, o6, y6, rfl, -, hy6, c6⟩ := hr5.ints'.at xk hx1
      have hy6' : y6 = M.cpw (M.ent R) L (u + 1) t xk := by rw [hy6]; simp [hx1]
      have HI4 := Lib.hid hr4.ints'
      have hlb : ∀ v, v < L → ((List.range L).map fun j => M.cpw (M.ent R) L u t j).getD v 0 = M.cpw (M.ent R) L u t v := fun v hv => by simp [hv]
      have HC2 : ∀ w', Below wo.heap.size wo w' → Calls Try.prog 73 #[.slice a L cap, .int .i64 xk, .slice r4 L rc4, .int .i64 y6] w' fun e w'' => e = .returned (.int .i64 ((M.xs (M.ent R) L t s f (k + 1) : Nat) : Int)) ∧ Below w'.heap.size w' w'' := by
        intro w' hb'
        rw [hxs]
        refine nextNode _ _ _ R xk _ _ _ _ y6 _ (HQ.out.below (HB2.out.trans ((HB.out.trans (hb'.mono hzo)).mono hz2))) (HI4.out.below hb') hx1 hn1 (fun v hv => ?_) ?_ (fun v hv => ?_)
        · rw [hlb v hv]; exact M.big_sm (M.cpw_sm HSm.out u t v ht hv) (by omega)
        · rw [hlb _ hn1, hn2, hy6']
        · rw [hlb v (by omega), hy6']; exact hn3 v hv
      have HCH := Lib.hid HC2
      obtain ⟨nx, hnx⟩ : ∃ nx : Int, nx = ((M.xs (M.ent R) L t s f (k + 1) : Nat) : Int) := ⟨_, rfl⟩
      rw [← hnx] at HCH
      have HNX : Hid (M.hvL (M.ent R) L t s f (k + 1) ++ [nx] = M.hvL (M.ent R) L t s f (k + 1 + 1)) := by show _ = _; rw [hnx, ← M.hvL_succ]
      have HLn : Hid ((M.hvL (M.ent R) L t s f (k + 1)).length = k + 1) := M.hvL_len _ _ _ _ _ _
      have hs1 : IntKind.i64.wrap ((u : Int) + 1) = (u : Int) + 1 := IntWalk.i64_in _ (by omega)
      have hs2 : ((u : Int) + 1).toNat = u + 1 := by omega
      have hs3 : 0 ≤ (u : Int) + 1 := by omega
      have hs4 : (u : Int) + 1 < (s : Int) + 1 := by omega
      have hs5 : (u : Int) < (s : Int) + 1 := by omega
      have hs6 : ((k : Int) + 1 - 1) = (k : Int) := by omega
      clear hx2 hn1 hn2 hn3 hxs hxk HC2 hnx hr4 hr5 hy6 hy6' hlb hz
      have hB4 : g4 < w2.heap.size := by
        have := HW.out.lt rfl
        exact this
      have hB6 : d6 < w2.heap.size := by
        obtain ⟨g7, r7, rc7, hg7, cr7, hr7⟩ := HW.out.row (u + 1) (by omega)
        injection hg7 with hg7
        injection hg7 with hg7
        subst hg7
        rw [M.wt_row _ _ _ _ _ (by omega), List.length_map, List.length_range] at cr7 hr7
        rw [HB.out.cell (p := ⟨g4, u + 1, none⟩) hB4, cr7] at cr5
        injection cr5 with cr5
        injection cr5 with e1 e2 e3
        subst e1
        exact (own_lt hr7 (k := d6) rfl).2
      go_wp2_with fail
      go_region_held3 (fun w' => w'.cell? ⟨g4, u, none⟩ = some (.slice r4 L rc4) ∧ w'.cell? ⟨g4, u + 1, none⟩ = some (.slice (some ⟨d6, o6, none⟩) L rc5) ∧ w'.cell? ⟨d6, o6 + xk, none⟩ = some (.int .i64 y6) ∧ Below w2.heap.size w2 w')
        (first
          | exact ⟨cr4, cr5, c6, HB.out.drew⟩
          | exact keep3h ‹_ ∧ _ ∧ _ ∧ Below _ _ _› hB4 hB4 hB6 HBa.out
          | exact keep3h ‹_ ∧ _ ∧ _ ∧ Below _ _ _› hB4 hB4 hB6 (HBc.out.mono (below4 ‹_ ∧ _ ∧ _ ∧ Below _ _ _›).size)
          | exact keep3h ‹_ ∧ _ ∧ _ ∧ Below _ _ _› hB4 hB4 hB6 ((b_alloc _ _).mono (below4 ‹_ ∧ _ ∧ _ ∧ Below _ _ _›).size))
        (first
          | (go_at_call 73; refine (HCH.out _ (Below.refl _ _).drew).mono ?_; rintro e w3 ⟨rfl, hb⟩; have HBc := Lib.hid hb; clear hb)
          | (refine step_append1 _ rfl _ _ rfl w2.heap.size _ _ nx _ (k + 1) HLn.out rfl ?ho rfl ?hy ?hl ?hb ?_; (case ho => exact (HO.out.below ((Below.refl _ _).drew.trans (HBc.out))).below (b_alloc _ _)); (case hy => (simp; done)); (case hl => omega); (case hb => exact Nat.le_trans (below4 ‹_ ∧ _ ∧ _ ∧ Below _ _ _›).size (Nat.le_refl _)); intro b4 c4 w4 ho hb; have HO4 := Lib.hid ho; have HBa := Lib.hid hb; clear ho hb))
      have hzc : w2.heap.size ≤ w3.heap.size := Nat.le_trans hzo HBc.out.size
      have HBz := Lib.hid (((HB.out.drew.trans (HBc.out.mono hzo)).alloc hzc _).trans HBa.out)
      rw [HNX.out] at HO4
      go_wp2
      go_roundw
      case rel => exact ⟨k + 1, _, _, _, by omega, by omega, rfl, rfl, HO4.out, HBz.out⟩
      case measure => simp; omega
    · obtain rfl : k = s := by omega
      have hneg : z < 0 := by omega
      clear hz
      go_wp2
      go_ret2
      exact ⟨_, _, _, rfl, HO.out.mono hz2, HB2.out.trans (HB.out.mono hz2)⟩

set_option maxRecDepth 100000 in
set_option maxHeartbeats 1000000 in
theorem heaviestPath (a : Option Addr) (n cap : Nat) (R : List (List Int)) (f t : Int) (w : World) (h : Mat w a n R) :
    Calls Try.prog 28 #[.slice a n cap, .int .i64 f, .int .i64 t] w (VRes (M.heavyRes R f t) w) := by
  have HA := Lib.hid h
  have HR := Lib.hid h.1
  by_cases hs : M.sqB R = true
  · have HS := Lib.hid hs
    have HQ := Lib.hid (sq_of h hs)
    have HSm := Lib.hid (sq_of h hs).2.2.1
    obtain ⟨-, -, -, n1, n2⟩ := sq_of h hs
    have HNE : Hid (M.nodesB n [f, t] = (M.inN n f && M.inN n t)) := by show _ = _; simp [M.nodesB]
    by_cases hn : (M.inN n f && M.inN n t) = true
    · have HN : Hid (M.nodesB n [f, t] = true) := by show _ = _; rw [HNE.out, hn]
      obtain ⟨f', rfl⟩ : ∃ f' : Nat, f = (f' : Int) := by
        rw [Bool.and_eq_true] at hn
        have := M.inN_t hn.1
        exact ⟨f.toNat, by omega⟩
      obtain ⟨t', rfl⟩ : ∃ t' : Nat, t = (t' : Int) := by
        rw [Bool.and_eq_true] at hn
        have := M.inN_t hn.2
        exact ⟨t.toNat, by omega⟩
      have hft : f' < n ∧ t' < n := by
        rw [Bool.and_eq_true] at hn
        have h1 := M.inN_t hn.1
        have h2 := M.inN_t hn.2
        omega
      obtain ⟨hf, ht⟩ := hft
      by_cases hp : M.noPos (M.ent R) n = true
      · by_cases hst : M.starF (M.ent R) n t' f' = -1000000000000000
        · have HE : Hid (M.heavyRes R f' t' = ([], 4)) := by
            show _ = _; unfold M.heavyRes; rw [hs, HR.out, hn, hp]
            rw [if_pos (by rfl), if_pos (by rfl), if_pos (by rfl), if_pos (by rw [Int.toNat_natCast, Int.toNat_natCast]; exact hst)]
          have HC : Calls Try.prog 57 #[.slice a n cap] (w.alloc (.cells #[.int .i64 f', .int .i64 t'] 2)) (CPost (M.starM R n, true) (w.alloc (.cells #[.int .i64 f', .int .i64 t'] 2))) := by
            have := starOf a n cap R _ (HQ.out.below (b_alloc w (.cells #[.int .i64 f', .int .i64 t'] 2)))
            unfold M.starL at this
            rw [hp] at this
            exact this
          have hfi : (f' : Int) < (n : Int) := by omega
          have hti : (t' : Int) < (n : Int) := by omega
          have HST := Lib.hid hst
          clear h hs hn hp hst
          go_enter Try.func28, Try.ntmps28
          go_wp2_with (first | (go_at_call 55; refine (isSquare_b _ _ _ R _ true HS.out HA.out).mono ?_; rintro e w' ⟨rfl, rfl⟩) | (go_at_call 71; refine (areNodes_b _ n _ _ _ _ _ _ true HN.out (by omega) (ints_lit2 _ _ _)).mono ?_; rintro e w' ⟨rfl, rfl⟩))
          refine HC.mono ?_
          rintro e w1 ⟨a2, m, cap2, rfl, hO, hb⟩
          obtain rfl : m = n := by have := hO.len; simpa [M.starM] using this
          have HB1 := Lib.hid (bel1 hb)
          obtain ⟨g, q, L, c, x, rfl, -, -, hL, hx, c1, c2, -, -⟩ := hO.at t' f' ht (by rw [show (M.starM R m, true).1 = M.mk m m (M.starF (M.ent R) m) from rfl, M.mk_rowlen _ _ _ _ ht]; exact hf)
          have hx2 : x = -1000000000000000 := by
            rw [hx, ← HST.out]
            exact M.mk_ent _ _ _ _ _ ht hf
          subst hx2
          rw [show (M.starM R m, true).1 = M.mk m m (M.starF (M.ent R) m) from rfl, M.mk_rowlen _ _ _ _ ht] at hL
          subst hL
          clear hO hb HC hx
          go_wp2
          go_ret2
          exact VRes.nil HE.out HB1.out
        · have HE : M.heavyRes R f' t' = (M.hvL (M.ent R) n t' (M.arcs (M.ent R) n f' t') f' (M.arcs (M.ent R) n f' t' + 1), 0) := by
            unfold M.heavyRes; rw [hs, HR.out, hn, hp]
            rw [if_pos (by rfl), if_pos (by rfl), if_pos (by rfl), if_neg (by rw [Int.toNat_natCast, Int.toNat_natCast]; exact hst)]
            rw [Int.toNat_natCast, Int.toNat_natCast]
          rw [HE]
          exact heaviest_ok _ _ _ _ _ _ _ h hs hf ht hp hst
      · simp only [Bool.not_eq_true] at hp
        have HE : Hid (M.heavyRes R f' t' = ([], 5)) := by
          show _ = _; unfold M.heavyRes; rw [hs, HR.out, hn, hp]; rfl
        have HC : Calls Try.prog 57 #[.slice a n cap] (w.alloc (.cells #[.int .i64 f', .int .i64 t'] 2)) (CPost ([], false) (w.alloc (.cells #[.int .i64 f', .int .i64 t'] 2))) := by
          have := starOf a n cap R _ (HQ.out.below (b_alloc w (.cells #[.int .i64 f', .int .i64 t'] 2)))
          unfold M.starL at this
          rw [hp] at this
          exact this
        clear h hs hn hp
        go_enter Try.func28, Try.ntmps28
        go_wp2_with (first | (go_at_call 55; refine (isSquare_b _ _ _ R _ true HS.out HA.out).mono ?_; rintro e w' ⟨rfl, rfl⟩) | (go_at_call 71; refine (areNodes_b _ n _ _ _ _ _ _ true HN.out (by omega) (ints_lit2 _ _ _)).mono ?_; rintro e w' ⟨rfl, rfl⟩) | (go_at_call 57; refine HC.mono ?_; rintro e w1 ⟨a2, m, cap2, rfl, hO, hb⟩; have HB1 := Lib.hid (bel1 hb); clear hO hb))
        go_ret2
        exact VRes.nil HE.out HB1.out
    · simp only [Bool.not_eq_true] at hn
      have HN : Hid (M.nodesB n [f, t] = false) := by show _ = _; rw [HNE.out, hn]
      have HE : Hid (M.heavyRes R f t = ([], 2)) := by
        show _ = _; unfold M.heavyRes; rw [hs, HR.out, hn]; rfl
      clear h hs hn
      go_enter Try.func28, Try.ntmps28
      go_wp2_with (first | (go_at_call 55; refine (isSquare_b _ _ _ R _ true HS.out HA.out).mono ?_; rintro e w' ⟨rfl, rfl⟩) | (go_at_call 71; refine (areNodes_b _ n _ _ _ _ _ _ false HN.out (by omega) (ints_lit2 _ _ _)).mono ?_; rintro e w' ⟨rfl, rfl⟩))
      go_ret2
      exact VRes.nil HE.out (b_alloc _ _)
  · simp only [Bool.not_eq_true] at hs
    have HS := Lib.hid hs
    have HE : Hid (M.heavyRes R f t = ([], 1)) := by show _ = _; unfold M.heavyRes; rw [hs]; rfl
    clear h hs
    go_enter Try.func28, Try.ntmps28
    go_wp2_with (go_at_call 55; refine (isSquare_b _ _ _ R _ false HS.out HA.out).mono ?_; rintro e w' ⟨rfl, rfl⟩)
    go_ret2
    exact VRes.nil HE.out (Below.refl _ _)
end Go.Proofs.Ytkilnneepnbckaa.V

namespace Go.Proofs.Ytkilnneepnbckaa.V
open Go.RowKit

set_option maxRecDepth 100000 in
set_option maxHeartbeats 400000 in
theorem eqInts (a : Option Addr) (n cap : Nat) (l : List Int) (a' : Option Addr) (n' cap' : Nat) (l' : List Int) (w : World) (h : Ints .i64 w a n l) (h' : Ints .i64 w a' n' l') (heq : l = l') :
    Calls Try.prog 48 #[.slice a n cap, .slice a' n' cap'] w fun e w' => e = .returned (.bool true) ∧ ∃ q, w' = w.drewN q := by
  subst heq
  obtain ⟨hl, hm, hr⟩ := h
  obtain ⟨hl', hm', hr'⟩ := h'
  obtain rfl : n = n' := by omega
  unfold maxLen at hm
  clear hm'
  have HL := Lib.hid hl
  clear hl hl'
  go_enter Try.func48, Try.ntmps48
  go_wp2
  go_loopw [5] (fun i wr => ∃ k : Nat, k ≤ n ∧ i = .int .i64 k ∧ ∃ q, wr = w.drewN q) (fun i _ => n - (intOf i).toNat)
  case atStart => exact ⟨0, Nat.zero_le _, rfl, 0, rfl⟩
  case round =>
    obtain ⟨k, hk, rfl, q, rfl⟩ := hrel
    by_cases hlt : k < n
    · rcases hr with h0 | ⟨b, off, rfl, hbl, hc⟩
      · omega
      rcases hr' with h0 | ⟨b', off', rfl, hbl', hc'⟩
      · omega
      have hck := hc k hlt
      have hck' := hc' k hlt
      obtain ⟨x, hx⟩ : ∃ x, x = l.getD k 0 := ⟨_, rfl⟩
      rw [← hx] at hck hck'
      clear hc hx hc'
      have hki : (k : Int) < (n : Int) := by omega
      go_wp2
      go_quiet (fail)
      go_wp2
      go_roundw
      case rel => exact ⟨k + 1, by omega, by go_num, _, rfl⟩
      case measure => simp [intOf]; omega
    · have hkn : k = n := by omega
      subst hkn
      clear hr hr'
      go_wp2
      go_ret
      exact ⟨rfl, q, rfl⟩

set_option maxRecDepth 100000 in
set_option maxHeartbeats 400000 in
theorem copyInts (a : Option Addr) (n cap : Nat) (l : List Int) (w : World) (h : Ints .i64 w a n l) (hs : n ≤ 1048576) :
    Calls Try.prog 46 #[.slice a n cap] w fun e w' => e = .returned (.slice (some ⟨w.heap.size, 0, none⟩) n n) ∧ Own w' w.heap.size (.slice (some ⟨w.heap.size, 0, none⟩) n n) l ∧ Below w.heap.size w w' := by
  obtain ⟨hl, hm, hr⟩ := h
  have hm2 := hm
  unfold maxLen at hm
  have HL := Lib.hid hl
  clear hl
  have hmk := run_make_row' (P := Try.prog) 28 2 (.int .i64 0) 8 Try.underlying28 info64 rfl .i64 .i64 n (by omega) (by omega)
  go_enter Try.func46, Try.ntmps46
  go_wp2
  clear hmk
  go_loopw [4] (fun i wr => ∃ k : Nat, k ≤ n ∧ i = .int .i64 k ∧ Own wr w.heap.size (.slice (some ⟨w.heap.size, 0, none⟩) n n) ((List.range n).map fun j => if j < k then l.getD j 0 else 0) ∧ Below w.heap.size w wr) (fun i _ => n - (intOf i).toNat)
  case atStart => exact ⟨0, Nat.zero_le _, rfl, by simpa using own_made w _ n (Nat.le_refl _) hm2, b_alloc _ _⟩
  case round =>
    obtain ⟨k, hk, rfl, hrow, hb⟩ := hrel
    by_cases hlt : k < n
    · rcases hr with h0 | ⟨b, off, rfl, hbl, hc⟩
      · omega
      have hck := hc k hlt
      obtain ⟨x, hx⟩ : ∃ x, x = l.getD k 0 := ⟨_, rfl⟩
      rw [← hx] at hck
      have hck' : wr.cell? ⟨b, off + k, none⟩ = some (.int .i64 x) := by rw [hb.cell (p := ⟨b, off + k, none⟩) hbl]; exact hck
      have hst : ∃ v, wr.cell? ⟨w.heap.size, k, none⟩ = some v := ⟨_, hrow.cellAt k hlt⟩
      obtain ⟨v, hst⟩ := hst
      have hfz := hrow.frozenAt k
      have HR := Lib.hid hrow
      have HB := Lib.hid hb
      have HX := Lib.hid hx
      clear hc hx hck hrow hb
      go_wp2
      go_roundw
      case rel =>
        refine ⟨k + 1, by omega, by go_num, ?_, HB.out.setCell (Nat.le_refl _) _⟩
        have := Own.set HR.out k x
        rw [M.map_set] at this
        refine (congrArg (Own _ _ _) (List.map_congr_left fun j hj => ?_)).mp this
        by_cases e : j = k
        · subst e; rw [if_pos rfl, if_pos (by omega), HX.out]
        · rw [if_neg e]
          by_cases e2 : j < k
          · rw [if_pos e2, if_pos (by omega)]
          · rw [if_neg e2, if_neg (by omega)]
      case measure => simp [intOf]; omega
    · have hkn : k = n := by omega
      subst hkn
      have HR := Lib.hid hrow
      have HB := Lib.hid hb
      clear hr hrow hb
      go_wp2
      go_ret
      refine ⟨rfl, ?_, HB.out⟩
      refine (congrArg (Own _ _ _) ?_).mp HR.out
      have hl := HL.out
      apply List.ext_getElem
      · simp [hl]
      · intro i h1 h2
        simp [show i < k by omega, h2]

/-- What is left of a size. -/
def SzPost (n : Nat) (left : Int) (w : World) (e : Ending) (w' : World) : Prop := ∃ x : Int, e = .returned (.int .i64 x) ∧ (x < 0 ∨ (0 ≤ x ∧ x + n = left)) ∧ w = w'

set_option maxRecDepth 100000 in
set_option maxHeartbeats 400000 in
theorem szInts (a : Option Addr) (n cap : Nat) (left : Int) (w : World) (hm : n ≤ maxLen) (h1 : 0 ≤ left) (h2 : left ≤ 1048576) :
    Calls Try.prog 95 #[.slice a n cap, .int .i64 left] w (SzPost n left w) := by
  unfold maxLen at hm
  by_cases hlt : left < n
  · go_enter Try.func95, Try.ntmps95
    go_wp2
    go_ret
    exact ⟨_, rfl, .inl (by omega), rfl⟩
  · go_enter Try.func95, Try.ntmps95
    go_wp2
    go_ret
    exact ⟨_, rfl, .inr ⟨by omega, by omega⟩, rfl⟩

/-- What is left of a size: nothing, or all the sizes fit. -/
def SzMPost (n : Nat) (R : List (List Int)) (left : Int) (w : World) (e : Ending) (w' : World) : Prop := ∃ x : Int, e = .returned (.int .i64 x) ∧ (x < 0 ∨ (0 ≤ x ∧ x ≤ left ∧ (n : Int) ≤ left ∧ (M.pre R R.length : Int) ≤ left)) ∧ w = w'

set_option maxRecDepth 100000 in
set_option maxHeartbeats 400000 in
theorem szIntss (a : Option Addr) (n cap : Nat) (R : List (List Int)) (left : Int) (w : World) (h : Mat w a n R) (h1 : 0 ≤ left) (h2 : left ≤ 1048576) :
    Calls Try.prog 44 #[.slice a n cap, .int .i64 left] w (SzMPost n R left w) := by
  have HM := Lib.hid h
  obtain ⟨hl, hm, -⟩ := h
  unfold maxLen at hm
  have HL := Lib.hid hl
  clear hl
  by_cases hlt : left < n
  · go_enter Try.func44, Try.ntmps44
    go_wp2
    go_ret
    exact ⟨_, rfl, .inl (by omega), rfl⟩
  · go_enter Try.func44, Try.ntmps44
    go_wp2
    go_loop [1, 5] (fun x i => ∃ (k : Nat) (y : Int), k ≤ n ∧ i = .int .i64 k ∧ x = .int .i64 y ∧ 0 ≤ y ∧ (M.pre R k : Int) + n + y ≤ left) (fun _ i => n - (intOf i).toNat)
    case atStart => exact ⟨0, left - n, Nat.zero_le _, rfl, rfl, by omega, by rw [M.pre_zero]; omega⟩
    case round =>
      obtain ⟨k, y, hk, rfl, rfl, hy, hp⟩ := hrel
      by_cases hkn : k < n
      · obtain ⟨b, off, ra, rc, L, l, rfl, hbl, hll, hc, hI⟩ := HM.out.at k hkn
        have hps := M.pre_succ R k (by have := HL.out; omega)
        have hLl : L = l.length := hI.1.symm
        rw [← hll, ← hLl] at hps
        have HP := Lib.hid hps
        have hLm := hI.2.1
        clear hI hll hps hLl
        go_wp2_with fail
        refine (szInts _ _ _ _ _ hLm hy (by omega)).mono ?_
        rintro e w' ⟨z, rfl, hz, rfl⟩
        rcases hz with hz | ⟨hz1, hz2⟩
        · go_wp2
          go_ret
          exact ⟨_, rfl, .inl (by omega), rfl⟩
        · go_wp2
          go_round
          case rel => exact ⟨k + 1, z, by omega, by go_num, rfl, hz1, by rw [HP.out]; omega⟩
          case measure => simp [intOf]; omega
      · obtain rfl : k = n := by omega
        go_wp2
        go_ret
        exact ⟨_, rfl, .inr ⟨hy, by omega, by omega, by rw [HL.out]; omega⟩, rfl⟩

end Go.Proofs.Ytkilnneepnbckaa.V

namespace Go.Proofs.Ytkilnneepnbckaa.V
open Go.RowKit

/-- Only blocks of S may have changed, and no others were added. -/
structure Chg (S : Nat → Prop) (w w' : World) : Prop where
  os : w'.os = w.os
  tape : w'.tape = w.tape
  output : w'.output = w.output
  size : w'.heap.size = w.heap.size
  other : ∀ k, ¬ S k → w'.heap[k]? = w.heap[k]?

theorem Chg.refl (S : Nat → Prop) (w : World) : Chg S w w := ⟨rfl, rfl, rfl, rfl, fun _ _ => rfl⟩
theorem Chg.trans {S : Nat → Prop} {a b c : World} (h : Chg S a b) (k : Chg S b c) : Chg S a c :=
  ⟨k.os.trans h.os, k.tape.trans h.tape, k.output.trans h.output, k.size.trans h.size, fun i hi => (k.other i hi).trans (h.other i hi)⟩
theorem Chg.mono {S S' : Nat → Prop} {a b : World} (h : Chg S a b) (hs : ∀ k, S k → S' k) : Chg S' a b :=
  ⟨h.os, h.tape, h.output, h.size, fun k hk => h.other k (fun hh => hk (hs k hh))⟩
theorem Chg.below {S : Nat → Prop} {a b : World} {B : Nat} (h : Chg S a b) (hs : ∀ k, S k → B ≤ k) : Below B a b :=
  ⟨h.os, h.tape, h.output, Nat.le_of_eq h.size.symm, fun k hk => h.other k (fun hh => by have := hs k hh; omega)⟩
theorem Chg.set {S : Nat → Prop} {a b : World} (h : Chg S a b) {g i : Nat} (hg : S g) (v : Value) : Chg S a (b.setCell ⟨g, i, none⟩ v) :=
  ⟨h.os, h.tape, h.output, by have := h.size; simpa [World.setCell] using this, fun k hk => (Below.heap_setCell _ _ _ _ (by show k ≠ g; intro e; subst e; exact hk hg)).trans (h.other k hk)⟩
theorem Own.chg {S : Nat → Prop} {w w' : World} {B : Nat} {v : Value} {l : List Int} (h : Own w B v l) (hc : Chg S w w') (hs : ∀ k, v.ownBlock = some k → ¬ S k) : Own w' B v l :=
  ownsRow_keep h fun k hk => hc.other k (hs k hk)

/-- The blocks from lo up to hi are as they were. -/
def Same (lo hi : Nat) (w w' : World) : Prop := ∀ k, lo ≤ k → k < hi → w'.heap[k]? = w.heap[k]?
theorem Same.refl (lo hi : Nat) (w : World) : Same lo hi w w := fun _ _ _ => rfl
theorem Same.below {lo hi b : Nat} {a w w' : World} (h : Same lo hi a w) (hb : Below b w w') (hh : hi ≤ b) : Same lo hi a w' :=
  fun k h1 h2 => (hb.block k (by omega)).trans (h k h1 h2)
theorem Same.chg {S : Nat → Prop} {lo hi : Nat} {a w w' : World} (h : Same lo hi a w) (hc : Chg S w w') (hs : ∀ k, lo ≤ k → k < hi → ¬ S k) : Same lo hi a w' :=
  fun k h1 h2 => (hc.other k (hs k h1 h2)).trans (h k h1 h2)

/-- One row of an owned matrix is rewritten. -/
theorem OwnV.row {w w' : World} {B : Nat} {v : Value} {R : List (List Int)} {V : List Value} {l : List Int} (h : OwnV w B v R V) (i : Nat) (hi : i < R.length) (ho : Own w' B (V.getD i (.slice none 0 0)) l)
    (hc : Chg (fun k => (V.getD i (.slice none 0 0)).ownBlock = some k) w w') : OwnV w' B v (R.set i l) V := by
  obtain ⟨h1, h2, h3, h4, h5⟩ := h
  refine ⟨by simpa using h1, ?_, ?_, ?_, ?_⟩
  · rw [List.length_set]
    exact ownsRow_keep h2 fun k hk => hc.other k (fun e => h4 i hi k e hk)
  · intro j hj
    simp only [List.length_set] at hj
    rw [getD_set _ _ _ _ _ hi]
    by_cases e : j = i
    · subst e; rw [if_pos rfl]; exact ho
    · rw [if_neg e]
      exact (h3 j hj).chg hc (fun k hk e2 => h5 j i hj hi e k hk e2)
  · intro j hj
    simp only [List.length_set] at hj
    exact h4 j hj
  · intro j t hj ht
    simp only [List.length_set] at hj ht
    exact h5 j t hj ht

set_option maxRecDepth 100000 in
set_option maxHeartbeats 400000 in
theorem markInts (a : Option Addr) (n cap B : Nat) (l : List Int) (m : Int) (w : World) (h : Own w B (.slice a n cap) l) (hn : n ≤ 1048576) (h1 : 0 ≤ m) (h2 : m ≤ 40000000) :
    Calls Try.prog 50 #[.slice a n cap, .int .i64 m] w fun e w' => e = .returned (.int .i64 (m + n)) ∧ Own w' B (.slice a n cap) (M.iota m n) ∧ Chg (fun k => (Value.slice a n cap).ownBlock = some k) w w' := by
  have HO := Lib.hid h
  have HL := Lib.hid h.len
  have hgg := own_form h
  obtain ⟨a', c', hv, -, -, hg⟩ := hgg
  injection hv with e1 e2 e3
  subst e1 e3
  rw [← e2] at hg
  clear h e2
  go_enter Try.func50, Try.ntmps50
  go_wp2
  go_loopw [1, 5] (fun x i wr => ∃ k : Nat, k ≤ n ∧ i = .int .i64 k ∧ x = .int .i64 (m + k) ∧ Own wr B (.slice a n cap) ((List.range n).map fun j => if j < k then m + (j : Int) else l.getD j 0) ∧ Chg (fun k => (Value.slice a n cap).ownBlock = some k) w wr) (fun _ i _ => n - (intOf i).toNat)
  case atStart =>
    refine ⟨0, Nat.zero_le _, rfl, by simp, ?_, Chg.refl _ _⟩
    refine (congrArg (Own _ _ _) ?_).mp HO.out
    have hl := HL.out
    apply List.ext_getElem
    · simp [hl]
    · intro i h1 h2
      simp [h1]
  case round =>
    obtain ⟨k, hk, rfl, rfl, hrow, hb⟩ := hrel
    by_cases hlt : k < n
    · obtain ⟨g, rfl, hBg, hgl⟩ := hg (by omega)
      have hst : ∃ v, wr.cell? ⟨g, k, none⟩ = some v := ⟨_, hrow.cellAt k hlt⟩
      obtain ⟨v, hst⟩ := hst
      have hfz := hrow.frozenAt k
      have HR := Lib.hid hrow
      have HB := Lib.hid hb
      clear hrow hb hg
      have hb1 : 0 ≤ m + (k : Int) := by omega
      have hb2 : m + (k : Int) ≤ 50000000 := by omega
      go_wp2
      go_roundw
      case rel =>
        refine ⟨k + 1, by omega, by go_num, vi (by omega), ?_, HB.out.set rfl _⟩
        have := Own.set HR.out k (m + k)
        rw [M.map_set] at this
        refine (congrArg (Own _ _ _) (List.map_congr_left fun j hj => ?_)).mp this
        by_cases e : j = k
        · subst e; rw [if_pos rfl, if_pos (by omega)]
        · rw [if_neg e]
          by_cases e2 : j < k
          · rw [if_pos e2, if_pos (by omega)]
          · rw [if_neg e2, if_neg (by omega)]
      case measure => simp [intOf]; omega
    · have hkn : k = n := by omega
      subst hkn
      have HR := Lib.hid hrow
      have HB := Lib.hid hb
      clear hrow hb hg
      go_wp2
      go_ret
      refine ⟨rfl, (congrArg (Own _ _ _) ?_).mp HR.out, HB.out⟩
      unfold M.iota
      exact List.map_congr_left fun j hj => by rw [if_pos (List.mem_range.1 hj)]

set_option maxRecDepth 100000 in
set_option maxHeartbeats 400000 in
theorem heldInts (a : Option Addr) (n cap : Nat) (m : Int) (w : World) (h : Ints .i64 w a n (M.iota m n)) (hn : n ≤ 1048576) (h1 : 0 ≤ m) (h2 : m ≤ 40000000) :
    Calls Try.prog 51 #[.slice a n cap, .int .i64 m] w fun e w' => e = .returned (.int .i64 (m + n)) ∧ w = w' := by
  have HI := Lib.hid h
  clear h
  go_enter Try.func51, Try.ntmps51
  go_wp2
  go_loop [1, 5] (fun x i => ∃ k : Nat, k ≤ n ∧ i = .int .i64 k ∧ x = .int .i64 (m + k)) (fun _ i => n - (intOf i).toNat)
  case atStart => exact ⟨0, Nat.zero_le _, rfl, by simp⟩
  case round =>
    obtain ⟨k, hk, rfl, rfl⟩ := hrel
    by_cases hlt : k < n
    · obtain ⟨b, off, x, rfl, hbl, hx, hc⟩ := HI.out.at k hlt
      rw [M.iota_getD m n k hlt] at hx
      subst hx
      have hb1 : 0 ≤ m + (k : Int) := by omega
      have hb2 : m + (k : Int) ≤ 50000000 := by omega
      go_wp2
      go_round
      case rel => exact ⟨k + 1, by omega, by go_num, vi (by omega)⟩
      case measure => simp [intOf]; omega
    · have hkn : k = n := by omega
      subst hkn
      go_wp2
      go_ret
      exact ⟨rfl, rfl⟩

set_option maxRecDepth 100000 in
set_option maxHeartbeats 400000 in
theorem markIntss (a : Option Addr) (n cap B : Nat) (R : List (List Int)) (m : Int) (w0 w : World) (h0 : OwnM w0 B (.slice a n cap) R) (hb0 : Same B w0.heap.size w0 w) (hn : n ≤ 1048576) (hp : M.pre R R.length ≤ 1048576) (h1 : 0 ≤ m) (h2 : m + M.pre R R.length ≤ 40000000) :
    Calls Try.prog 49 #[.slice a n cap, .int .i64 m] w fun e w' => e = .returned (.int .i64 (m + M.pre R R.length)) ∧ OwnM w' B (.slice a n cap) (M.marks m R) ∧ Chg (fun k => B ≤ k ∧ k < w0.heap.size) w w' := by
  obtain ⟨V, hV0⟩ := h0
  have hV : OwnV w B (.slice a n cap) R V := by
    obtain ⟨h1, h2, h3, h4, h5⟩ := hV0
    exact ⟨h1, ownsRow_keep h2 (fun k hv => hb0 k (own_lt h2 hv).1 (own_lt h2 hv).2), fun i hi => (h3 i hi).keep hb0, h4, h5⟩
  have hlt : ∀ i, i < n → ∀ k, (V.getD i (.slice none 0 0)).ownBlock = some k → B ≤ k ∧ k < w0.heap.size := by
    obtain ⟨e1, e2, e3, e4, e5⟩ := hV0
    have hl := OwnM.len ⟨V, e1, e2, e3, e4, e5⟩
    exact fun i hi k hk => own_lt (e3 i (by omega)) hk
  have HT := Lib.hid hlt
  have HL := Lib.hid (OwnM.len ⟨V, hV⟩)
  have hgg := own_form hV.2.1
  obtain ⟨a', c', hv, -, -, hg⟩ := hgg
  injection hv with e1 e2 e3
  subst e1 e3
  rw [← e2] at hg
  have HV := Lib.hid hV
  clear hV hlt hV0 e2 hb0
  go_enter Try.func49, Try.ntmps49
  go_wp2
  go_loopw [1, 5] (fun x i wr => ∃ (k : Nat) (y : Int), k ≤ n ∧ i = .int .i64 k ∧ x = .int .i64 y ∧ y = m + M.pre R k ∧ OwnV wr B (.slice a n cap) (M.marked m R k) V ∧ Chg (fun k => B ≤ k ∧ k < w0.heap.size) w wr) (fun _ i _ => n - (intOf i).toNat)
  case atStart => exact ⟨0, m, Nat.zero_le _, rfl, rfl, by rw [M.pre_zero]; omega, by rw [M.marked_zero]; exact HV.out, Chg.refl _ _⟩
  case round =>
    obtain ⟨k, y, hk, rfl, rfl, hy, hO, hb⟩ := hrel
    have HO := Lib.hid hO
    have HB := Lib.hid hb
    by_cases hlt : k < n
    · have hkR : k < R.length := by have := HL.out; omega
      have hps := M.pre_succ R k hkR
      have hpm := M.pre_mono R (show k + 1 ≤ R.length by omega)
      have hle := M.len_le_pre R k hkR
      obtain ⟨g, rfl, hBg, hgl⟩ := hg (by omega)
      have hrow := HO.out.2.2.1 k (by simpa using hkR)
      obtain ⟨ra, rc, hrv, hrc, hrm, hrg⟩ := own_form hrow
      have hcell : wr.cell? ⟨g, k, none⟩ = some (V.getD k (.slice none 0 0)) := by
        have e : n = (M.marked m R k).length := by have := HL.out; simpa using this
        have h2 := HO.out.2.1
        rw [← e] at h2
        rw [World.ownsRow.cellAt h2 k (by omega)]
        have := HO.out.1
        simp [show k < V.length by omega]
      rw [M.marked_rowlen m R k k hkR] at hrv hrc
      rw [hrv] at hcell hrow
      rw [M.marked_at m R k k hkR, if_neg (Nat.lt_irrefl _)] at hrow
      have y1 : 0 ≤ y := by omega
      have y2 : y ≤ 40000000 := by omega
      generalize hLn : (R.getD k []).length = L at *
      have hLs : L ≤ 1048576 := by omega
      have HY := Lib.hid hy
      have HP := Lib.hid hps
      have HRV := Lib.hid hrv
      have HRW := Lib.hid hrow
      have HLn := Lib.hid hLn
      have HTk := Lib.hid (HT.out k hlt)
      clear hO hb hg hps hpm hle hrow hrv hrg hrc hy hLn
      go_wp2_with fail
      refine (markInts _ _ _ B _ _ _ HRW.out hLs y1 y2).mono ?_
      rintro e w1 ⟨rfl, ho1, hc1⟩
      have hN : OwnV w1 B (.slice (some ⟨g, 0, none⟩) n cap) (M.marked m R (k + 1)) V := by
        have := HO.out.row k (by simpa using hkR) (l := M.iota y L) (by rw [HRV.out]; exact ho1) (by rw [HRV.out]; exact hc1)
        rw [HY.out, ← HLn.out, M.marked_set m R k hkR] at this
        exact this
      have HN := Lib.hid hN
      have HB1 := Lib.hid (HB.out.trans (hc1.mono (fun j hj => HTk.out j (by rw [HRV.out]; exact hj))))
      clear ho1 hc1 hN
      go_wp2
      go_roundw
      case rel => exact ⟨k + 1, y + L, by omega, by go_num, rfl, by rw [HY.out, HP.out]; omega, HN.out, HB1.out⟩
      case measure => simp [intOf]; omega
    · have hkn : k = n := by omega
      subst hkn
      have HY := Lib.hid hy
      clear hO hb hg hy
      go_wp2
      go_ret
      have e := HL.out
      refine ⟨by rw [HY.out, ← e]; rfl, ⟨V, ?_⟩, HB.out⟩
      unfold M.marks
      rw [← e]
      exact HO.out

set_option maxRecDepth 100000 in
set_option maxHeartbeats 400000 in
theorem heldIntss (a : Option Addr) (n cap : Nat) (R : List (List Int)) (m : Int) (w : World) (h : Mat w a n (M.marks m R)) (hp : M.pre R R.length ≤ 1048576) (h1 : 0 ≤ m) (h2 : m + M.pre R R.length ≤ 40000000) :
    Calls Try.prog 52 #[.slice a n cap, .int .i64 m] w fun e w' => e = .returned (.int .i64 (m + M.pre R R.length)) ∧ w = w' := by
  have HL : Hid (n = R.length) := by have := h.1; unfold M.marks at this; show _ = _; simpa using this.symm
  have hm := h.2.1
  have HI := Lib.hid h
  clear h
  unfold maxLen at hm
  go_enter Try.func52, Try.ntmps52
  go_wp2
  go_loop [1, 5] (fun x i => ∃ (k : Nat) (y : Int), k ≤ n ∧ i = .int .i64 k ∧ x = .int .i64 y ∧ y = m + M.pre R k) (fun _ i => n - (intOf i).toNat)
  case atStart => exact ⟨0, m, Nat.zero_le _, rfl, rfl, by rw [M.pre_zero]; omega⟩
  case round =>
    obtain ⟨k, y, hk, rfl, rfl, hy⟩ := hrel
    by_cases hlt : k < n
    · have hkR : k < R.length := by have := HL.out; omega
      have hps := M.pre_succ R k hkR
      have hpm := M.pre_mono R (show k + 1 ≤ R.length by omega)
      have hle := M.len_le_pre R k hkR
      obtain ⟨b, off, ra, rc, L, l, rfl, hbl, hll, hc, hI⟩ := HI.out.at k hlt
      unfold M.marks at hll
      rw [M.marked_at m R _ k hkR, if_pos hkR] at hll
      have hLe : L = (R.getD k []).length := by have := hI.1; rw [hll] at this; simpa using this.symm
      rw [← hLe] at hps hle hll
      rw [hll, ← hy] at hI
      have y1 : 0 ≤ y := by omega
      have y2 : y ≤ 40000000 := by omega
      have hLs : L ≤ 1048576 := by omega
      have HY := Lib.hid hy
      have HP := Lib.hid hps
      have HII := Lib.hid hI
      have hyL : 0 ≤ y + (L : Int) := by omega
      clear hI hll hps hpm hle hLe hy
      go_wp2_with fail
      refine (heldInts _ _ _ _ _ HII.out hLs y1 y2).mono ?_
      rintro e w' ⟨rfl, rfl⟩
      go_wp2
      go_round
      case rel => exact ⟨k + 1, y + L, by omega, by go_num, rfl, by rw [HY.out, HP.out]; omega⟩
      case measure => simp [intOf]; omega
    · have hkn : k = n := by omega
      subst hkn
      have HY := Lib.hid hy
      clear hy
      go_wp2
      go_ret
      have e := HL.out
      exact ⟨by rw [HY.out, ← e]; rfl, rfl⟩

/-- The same, said for the exact laws: the number is named, and what changed lies in the blocks of the marked slice. -/
theorem markM (a : Option Addr) (n cap B : Nat) (R : List (List Int)) (m : Int) (w0 w : World) (h0 : OwnM w0 B (.slice a n cap) R) (hb0 : Same B w0.heap.size w0 w) (hn : n ≤ 1048576) (hp : M.pre R R.length ≤ 1048576) (h1 : 0 ≤ m) (h2 : m + M.pre R R.length ≤ 40000000) :
    Calls Try.prog 49 #[.slice a n cap, .int .i64 m] w fun e w' => ∃ y : Int, e = .returned (.int .i64 y) ∧ 0 ≤ y ∧ Hid (y = m + M.pre R R.length) ∧ OwnM w' B (.slice a n cap) (M.marks m R) ∧ Chg (fun k => B ≤ k ∧ k < w0.heap.size) w w' := by
  refine (markIntss _ _ _ _ _ _ _ _ h0 hb0 hn hp h1 h2).mono ?_
  rintro e w' ⟨rfl, ho, hc⟩
  exact ⟨_, rfl, by omega, rfl, ho, hc⟩
theorem heldM (a : Option Addr) (n cap : Nat) (R : List (List Int)) (m y : Int) (w : World) (h : Mat w a n (M.marks m R)) (hp : M.pre R R.length ≤ 1048576) (h1 : 0 ≤ m) (h2 : m + M.pre R R.length ≤ 40000000) (hy : y = m + M.pre R R.length) :
    Calls Try.prog 52 #[.slice a n cap, .int .i64 m] w fun e w' => e = .returned (.int .i64 y) ∧ w = w' := by
  subst hy
  exact heldIntss _ _ _ _ _ _ h hp h1 h2
theorem markV (a : Option Addr) (n cap B : Nat) (l : List Int) (m : Int) (w0 w : World) (h0 : Own w0 B (.slice a n cap) l) (hb0 : Same B w0.heap.size w0 w) (hn : n ≤ 1048576) (h1 : 0 ≤ m) (h2 : m ≤ 40000000) :
    Calls Try.prog 50 #[.slice a n cap, .int .i64 m] w fun e w' => ∃ y : Int, e = .returned (.int .i64 y) ∧ 0 ≤ y ∧ Hid (y = m + n) ∧ Own w' B (.slice a n cap) (M.iota m n) ∧ Chg (fun k => B ≤ k ∧ k < w0.heap.size) w w' := by
  refine (markInts _ _ _ B l _ _ (h0.keep hb0) hn h1 h2).mono ?_
  rintro e w' ⟨rfl, ho, hc⟩
  exact ⟨_, rfl, by omega, rfl, ho, hc.mono (fun k hk => own_lt h0 hk)⟩
theorem heldV (a : Option Addr) (n cap : Nat) (m y : Int) (w : World) (h : Ints .i64 w a n (M.iota m n)) (hn : n ≤ 1048576) (h1 : 0 ≤ m) (h2 : m ≤ 40000000) (hy : y = m + n) :
    Calls Try.prog 51 #[.slice a n cap, .int .i64 m] w fun e w' => e = .returned (.int .i64 y) ∧ w = w' := by
  subst hy
  exact heldInts _ _ _ _ _ h hn h1 h2
end Go.Proofs.Ytkilnneepnbckaa.V
