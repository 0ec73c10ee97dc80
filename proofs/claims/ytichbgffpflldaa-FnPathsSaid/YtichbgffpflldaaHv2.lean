/- HeaviestPath, in the program: every case. -/
import Derived.Test.YtichbgffpflldaaHv1
import Derived.Test.YtichbgffpflldaaPth4
import Derived.Deep.RegionHeld3
namespace Go.Proofs.Ytichbgffpflldaa.V
open Go.RowKit

theorem ints_lit2 (w : World) (x y : Int) : Ints .i64 (w.alloc (.cells #[.int .i64 x, .int .i64 y] 2)) (some ⟨w.heap.size, 0, none⟩) 2 [x, y] := by
  refine ⟨rfl, by decide, .inr ⟨_, _, rfl, by simp, fun i hi => ?_⟩⟩
  rcases (show i = 0 ∨ i = 1 by omega) with rfl | rfl <;> simp
theorem own_lit1 (w : World) (B : Nat) (x : Int) (hB : B ≤ w.heap.size) : Own (w.alloc (.cells #[.int .i64 x] 2)) B (.slice (some ⟨w.heap.size, 0, none⟩) 1 1) [x] :=
  World.ownsRow_lit w #[.int .i64 x] 1 hB (by decide) rfl

/-- Three cells, and all that lay there before, outlive a step. -/
theorem keep3 {B : Nat} {w0 w1 w2 : World} {a1 a2 a3 : Addr} {v1 v2 v3 : Value} (h : w1.cell? a1 = some v1 ∧ w1.cell? a2 = some v2 ∧ w1.cell? a3 = some v3 ∧ Below B w0 w1) (h1 : a1.block < B) (h2 : a2.block < B) (h3 : a3.block < B) (hb : Below B w1 w2) :
    w2.cell? a1 = some v1 ∧ w2.cell? a2 = some v2 ∧ w2.cell? a3 = some v3 ∧ Below B w0 w2 :=
  ⟨by rw [hb.cell h1]; exact h.1, by rw [hb.cell h2]; exact h.2.1, by rw [hb.cell h3]; exact h.2.2.1, h.2.2.2.trans hb⟩
theorem below4 {B : Nat} {w0 w1 : World} {A1 A2 A3 : Prop} (h : A1 ∧ A2 ∧ A3 ∧ Below B w0 w1) : Below B w0 w1 := h.2.2.2
set_option maxRecDepth 100000 in
set_option maxHeartbeats 2000000 in
theorem heaviest_ok (a : Option Addr) (n cap : Nat) (R : List (List Int)) (f t : Nat) (w : World) (h : Mat w a n R) (hs : M.sqB R = true) (hf : f < n) (ht : t < n) (hp : M.noPos (M.ent R) n = true) (hst : M.starF (M.ent R) n t f ≠ -1000000000000000) :
    Calls Try.prog 43 #[.slice a n cap, .int .i64 f, .int .i64 t] w (VRes (M.hvL (M.ent R) n t (M.arcs (M.ent R) n f t) f (M.arcs (M.ent R) n f t + 1), 0) w) := by
  have HA := Lib.hid h
  have HS := Lib.hid hs
  have HQ := Lib.hid (sq_of h hs)
  have HSm := Lib.hid (sq_of h hs).2.2.1
  obtain ⟨-, -, -, n1, n2⟩ := sq_of h hs
  obtain ⟨s, hsd⟩ : ∃ s, s = M.arcs (M.ent R) n f t := ⟨_, rfl⟩
  obtain ⟨k1, k2, k3⟩ := M.arcs_is n2 HSm.out hp hf ht hst
  rw [← hsd] at k1 k2 k3 ⊢
  obtain ⟨y, hy⟩ : ∃ y, y = M.starF (M.ent R) n t f := ⟨_, rfl⟩
  rw [← hy] at k1 k3 hst
  have hy0 : (y == -1000000000000000) = false := by simpa using hst
  have HN : Hid (M.nodesB n [(f : Int), (t : Int)] = true) := by
    show _ = _
    simp [M.nodesB, M.inN]; omega
  have HC : Calls Try.prog 84 #[.slice a n cap] (w.alloc (.cells #[.int .i64 f, .int .i64 t] 2)) (CPost (M.starM R n, true) (w.alloc (.cells #[.int .i64 f, .int .i64 t] 2))) := by
    have := starOf a n cap R _ (HQ.out.below (b_alloc w (.cells #[.int .i64 f, .int .i64 t] 2)))
    unfold M.starL at this
    rw [hp] at this
    exact this
  have HK1 := Lib.hid k1
  have HK3 := Lib.hid k3
  have HY := Lib.hid hy
  have HF1 : Hid (M.cpw (M.ent R) n s t f ≠ -1000000000000000) := by show _ ≠ _; rw [k1]; exact hst
  have hfi : (f : Int) < (n : Int) := by omega
  have hti : (t : Int) < (n : Int) := by omega
  clear h hs hp hst k1 k3 hy hsd
  go_enter Try.func43, Try.ntmps43
  go_wp2_with (first | (go_at_call 82; refine (isSquare_b _ _ _ R _ true HS.out HA.out).mono ?_; rintro e w' ⟨rfl, rfl⟩) | (go_at_call 94; refine (areNodes_b _ n _ _ _ _ _ _ true HN.out (by omega) (ints_lit2 _ _ _)).mono ?_; rintro e w' ⟨rfl, rfl⟩))
  refine HC.mono ?_
  rintro e w1 ⟨a2, m, cap2, rfl, hO, hb⟩
  obtain rfl : m = n := by have := hO.len; simpa [M.starM] using this
  have HB1 := Lib.hid (bel1 hb)
  obtain ⟨g, q, L, c, x, rfl, -, -, hL, hx, c1, c2, -, -⟩ := hO.at t f ht (by rw [show (M.starM R m, true).1 = M.mk m m (M.starF (M.ent R) m) from rfl, M.mk_rowlen _ _ _ _ ht]; exact hf)
  have hx2 : x = y := by
    rw [hx, HY.out]
    exact M.mk_ent _ _ _ _ _ ht hf
  subst hx2
  rw [show (M.starM R m, true).1 = M.mk m m (M.starF (M.ent R) m) from rfl, M.mk_rowlen _ _ _ _ ht] at hL
  subst hL
  clear hO hb HC hx
  go_wp2_with fail
  refine (weightsTo _ _ _ R f t s _ _ (HQ.out.below HB1.out) hf ht k2 HK1.out HK3.out).mono ?_
  rintro e w2 ⟨b3, c3, rfl, hW, hb⟩
  have HW := Lib.hid hW
  have HB2 := Lib.hid (bnext HB1.out hb)
  have hz2 : w.heap.size ≤ w2.heap.size := HB2.out.size
  have HP0 : Hid (Own (w2.alloc (.cells #[.int .i64 (f : Int)] 2)) w2.heap.size (.slice (some ⟨w2.heap.size, 0, none⟩) 1 1) (M.hvL (M.ent R) L t s f 1)) := own_lit1 w2 _ _ (Nat.le_refl _)
  clear c1 c2 hW hb
  have hsz : (((s : Int) + 1) - 2) = (s : Int) - 1 := by omega
  go_wp2
  go_loopw [11, 12, 13] (fun o i _ wr => ∃ (k : Nat) (b : Option Addr) (c : Nat) (z : Int), k ≤ s ∧ z = (s : Int) - 1 - (k : Int) ∧ i = .int .i64 z ∧ o = .slice b (k + 1) c ∧ Own wr w2.heap.size (.slice b (k + 1) c) (M.hvL (M.ent R) L t s f (k + 1)) ∧ Below w2.heap.size w2 wr) (fun o _ _ _ => match o with | .slice _ k _ => s + 1 - k | _ => 0)
  case atStart => exact ⟨0, _, _, _, Nat.zero_le _, by omega, rfl, rfl, HP0.out, b_alloc _ _⟩
  case round =>
    obtain ⟨k, b, c, z, hk, hz, rfl, rfl, hO, hb⟩ := hrel
    obtain ⟨wo, rfl⟩ : ∃ x, x = wr := ⟨_, rfl⟩
    have HO := Lib.hid hO
    have HB := Lib.hid hb
    have hzo : w2.heap.size ≤ wo.heap.size := hb.size
    clear hO hb HP0
    by_cases hlt : k < s
    · obtain ⟨u, rfl⟩ : ∃ u : Nat, z = (u : Int) := ⟨z.toNat, by omega⟩
      have hu : u + 1 + k = s := by omega
      obtain ⟨hx1, hx2⟩ := M.xs_inv HSm.out k2 ht hf HF1.out k (by omega)
      rw [show s - k = u + 1 by omega] at hx2
      obtain ⟨hn1, hn2, hn3⟩ := M.nxt_is HSm.out (s := u) (by omega) ht hx1 hx2
      have hxs : M.xs (M.ent R) L t s f (k + 1) = M.nxt (M.ent R) L t u (M.xs (M.ent R) L t s f k) := by
        show M.nxt _ _ _ (s - 1 - k) _ = _
        rw [show s - 1 - k = u by omega]
      obtain ⟨d, od, x1, rfl, -, hx1', cx⟩ := HO.out.ints'.at k (by omega)
      rw [M.hvL_at _ _ _ _ _ _ _ (by omega)] at hx1'
      obtain ⟨xk, hxk⟩ : ∃ xk, xk = M.xs (M.ent R) L t s f k := ⟨_, rfl⟩
      rw [← hxk] at hx1' hx1 hx2 hn1 hn2 hn3 hxs
      subst hx1'
      have hxi : (xk : Int) < (L : Int) := by omega
      obtain ⟨g4, r4, rc4, hg4, cr4, hr4⟩ := (HW.out.below HB.out).row u (by omega)
      obtain ⟨g5, r5, rc5, hg5, cr5, hr5⟩ := (HW.out.below HB.out).row (u + 1) (by omega)
      rw [M.wt_row _ _ _ _ _ (by omega), List.length_map, List.length_range] at cr4 hr4 cr5 hr5
      subst hg4
      injection hg5 with hg5
      injection hg5 with hg5
      subst hg5
      obtain ⟨d6, o6, y6, rfl, -, hy6, c6⟩ := hr5.ints'.at xk hx1
      have hy6' : y6 = M.cpw (M.ent R) L (u + 1) t xk := by rw [hy6]; simp [hx1]
      have HI4 := Lib.hid hr4.ints'
      have hlb : ∀ v, v < L → ((List.range L).map fun j => M.cpw (M.ent R) L u t j).getD v 0 = M.cpw (M.ent R) L u t v := fun v hv => by simp [hv]
      have HC2 : ∀ w', Below wo.heap.size wo w' → Calls Try.prog 96 #[.slice a L cap, .int .i64 xk, .slice r4 L rc4, .int .i64 y6] w' fun e w'' => e = .returned (.int .i64 ((M.xs (M.ent R) L t s f (k + 1) : Nat) : Int)) ∧ Below w'.heap.size w' w'' := by
        intro w' hb'
        rw [hxs]
        refine nextNode _ _ _ R xk _ _ _ _ y6 _ (HQ.out.below (HB2.out.trans ((HB.out.trans (hb'.mono hzo)).mono hz2))) (HI4.out.below hb') hx1 hn1 (fun v hv => ?_) ?_ (fun v hv => ?_)
        · rw [hlb v hv]; exact M.big_sm (M.cpw_sm HSm.out u t v ht hv) (by omega)
        · rw [hlb _ hn1, hn2, hy6']
        · rw [hlb v (by omega), hy6']; exact hn3 v hv
      have HCH := Lib.hid HC2
      obtain ⟨nx, hnx⟩ : ∃ nx : Int, nx = ((M.xs (M.ent R) L t s f (k + 1) : Nat) : Int) := ⟨_, rfl⟩
      rw [← hnx] at HCH
      have HNX : Hid (M.hvL (M.ent R) L t s f (k + 1) ++ [nx] = M.hvL (M.ent R) L t s f (k + 1 + 1)) := by show _ = _; rw [hnx, ← M.hvL_succ]
      have HLn : Hid ((M.hvL (M.ent R) L t s f (k + 1)).length = k + 1) := M.hvL_len _ _ _ _ _ _
      have hs1 : IntKind.i64.wrap ((u : Int) + 1) = (u : Int) + 1 := IntWalk.i64_in _ (by omega)
      have hs2 : ((u : Int) + 1).toNat = u + 1 := by omega
      have hs3 : 0 ≤ (u : Int) + 1 := by omega
      have hs4 : (u : Int) + 1 < (s : Int) + 1 := by omega
      have hs5 : (u : Int) < (s : Int) + 1 := by omega
      have hs6 : ((k : Int) + 1 - 1) = (k : Int) := by omega
      clear hx2 hn1 hn2 hn3 hxs hxk HC2 hnx hr4 hr5 hy6 hy6' hlb hz
      have hB4 : g4 < w2.heap.size := by
        have := HW.out.lt rfl
        exact this
      have hB6 : d6 < w2.heap.size := by
        obtain ⟨g7, r7, rc7, hg7, cr7, hr7⟩ := HW.out.row (u + 1) (by omega)
        injection hg7 with hg7
        injection hg7 with hg7
        subst hg7
        rw [M.wt_row _ _ _ _ _ (by omega), List.length_map, List.length_range] at cr7 hr7
        rw [HB.out.cell (p := ⟨g4, u + 1, none⟩) hB4, cr7] at cr5
        injection cr5 with cr5
        injection cr5 with e1 e2 e3
        subst e1
        exact (own_lt hr7 (k := d6) rfl).2
      go_wp2_with fail
      go_region_held3 (fun w' => w'.cell? ⟨g4, u, none⟩ = some (.slice r4 L rc4) ∧ w'.cell? ⟨g4, u + 1, none⟩ = some (.slice (some ⟨d6, o6, none⟩) L rc5) ∧ w'.cell? ⟨d6, o6 + xk, none⟩ = some (.int .i64 y6) ∧ Below w2.heap.size w2 w')
        (first
          | exact ⟨cr4, cr5, c6, HB.out.drew⟩
          | exact keep3 ‹_ ∧ _ ∧ _ ∧ Below _ _ _› hB4 hB4 hB6 HBa.out
          | exact keep3 ‹_ ∧ _ ∧ _ ∧ Below _ _ _› hB4 hB4 hB6 (HBc.out.mono (below4 ‹_ ∧ _ ∧ _ ∧ Below _ _ _›).size)
          | exact keep3 ‹_ ∧ _ ∧ _ ∧ Below _ _ _› hB4 hB4 hB6 ((b_alloc _ _).mono (below4 ‹_ ∧ _ ∧ _ ∧ Below _ _ _›).size))
        (first
          | (go_at_call 96; refine (HCH.out _ (Below.refl _ _).drew).mono ?_; rintro e w3 ⟨rfl, hb⟩; have HBc := Lib.hid hb; clear hb)
          | (refine step_append1 _ rfl _ _ rfl w2.heap.size _ _ nx _ (k + 1) HLn.out rfl ?ho rfl ?hy ?hl ?hb ?_; (case ho => exact (HO.out.below ((Below.refl _ _).drew.trans (HBc.out))).below (b_alloc _ _)); (case hy => (simp; done)); (case hl => omega); (case hb => exact Nat.le_trans (below4 ‹_ ∧ _ ∧ _ ∧ Below _ _ _›).size (Nat.le_refl _)); intro b4 c4 w4 ho hb; have HO4 := Lib.hid ho; have HBa := Lib.hid hb; clear ho hb))
      have hzc : w2.heap.size ≤ w3.heap.size := Nat.le_trans hzo HBc.out.size
      have HBz := Lib.hid (((HB.out.drew.trans (HBc.out.mono hzo)).alloc hzc _).trans HBa.out)
      rw [HNX.out] at HO4
      go_wp2
      go_roundw
      case rel => exact ⟨k + 1, _, _, _, by omega, by omega, rfl, rfl, HO4.out, HBz.out⟩
      case measure => simp; omega
    · obtain rfl : k = s := by omega
      have hneg : z < 0 := by omega
      clear hz
      go_wp2
      go_ret2
      exact ⟨_, _, _, rfl, HO.out.mono hz2, HB2.out.trans (HB.out.mono hz2)⟩

set_option maxRecDepth 100000 in
set_option maxHeartbeats 1000000 in
theorem heaviestPath (a : Option Addr) (n cap : Nat) (R : List (List Int)) (f t : Int) (w : World) (h : Mat w a n R) :
    Calls Try.prog 43 #[.slice a n cap, .int .i64 f, .int .i64 t] w (VRes (M.heavyRes R f t) w) := by
  have HA := Lib.hid h
  have HR := Lib.hid h.1
  by_cases hs : M.sqB R = true
  · have HS := Lib.hid hs
    have HQ := Lib.hid (sq_of h hs)
    have HSm := Lib.hid (sq_of h hs).2.2.1
    obtain ⟨-, -, -, n1, n2⟩ := sq_of h hs
    have HNE : Hid (M.nodesB n [f, t] = (M.inN n f && M.inN n t)) := by show _ = _; simp [M.nodesB]
    by_cases hn : (M.inN n f && M.inN n t) = true
    · have HN : Hid (M.nodesB n [f, t] = true) := by show _ = _; rw [HNE.out, hn]
      obtain ⟨f', rfl⟩ : ∃ f' : Nat, f = (f' : Int) := by
        rw [Bool.and_eq_true] at hn
        have := M.inN_t hn.1
        exact ⟨f.toNat, by omega⟩
      obtain ⟨t', rfl⟩ : ∃ t' : Nat, t = (t' : Int) := by
        rw [Bool.and_eq_true] at hn
        have := M.inN_t hn.2
        exact ⟨t.toNat, by omega⟩
      have hft : f' < n ∧ t' < n := by
        rw [Bool.and_eq_true] at hn
        have h1 := M.inN_t hn.1
        have h2 := M.inN_t hn.2
        omega
      obtain ⟨hf, ht⟩ := hft
      by_cases hp : M.noPos (M.ent R) n = true
      · by_cases hst : M.starF (M.ent R) n t' f' = -1000000000000000
        · have HE : Hid (M.heavyRes R f' t' = ([], 4)) := by
            show _ = _; unfold M.heavyRes; rw [hs, HR.out, hn, hp]
            rw [if_pos (by rfl), if_pos (by rfl), if_pos (by rfl), if_pos (by rw [Int.toNat_natCast, Int.toNat_natCast]; exact hst)]
          have HC : Calls Try.prog 84 #[.slice a n cap] (w.alloc (.cells #[.int .i64 f', .int .i64 t'] 2)) (CPost (M.starM R n, true) (w.alloc (.cells #[.int .i64 f', .int .i64 t'] 2))) := by
            have := starOf a n cap R _ (HQ.out.below (b_alloc w (.cells #[.int .i64 f', .int .i64 t'] 2)))
            unfold M.starL at this
            rw [hp] at this
            exact this
          have hfi : (f' : Int) < (n : Int) := by omega
          have hti : (t' : Int) < (n : Int) := by omega
          have HST := Lib.hid hst
          clear h hs hn hp hst
          go_enter Try.func43, Try.ntmps43
          go_wp2_with (first | (go_at_call 82; refine (isSquare_b _ _ _ R _ true HS.out HA.out).mono ?_; rintro e w' ⟨rfl, rfl⟩) | (go_at_call 94; refine (areNodes_b _ n _ _ _ _ _ _ true HN.out (by omega) (ints_lit2 _ _ _)).mono ?_; rintro e w' ⟨rfl, rfl⟩))
          refine HC.mono ?_
          rintro e w1 ⟨a2, m, cap2, rfl, hO, hb⟩
          obtain rfl : m = n := by have := hO.len; simpa [M.starM] using this
          have HB1 := Lib.hid (bel1 hb)
          obtain ⟨g, q, L, c, x, rfl, -, -, hL, hx, c1, c2, -, -⟩ := hO.at t' f' ht (by rw [show (M.starM R m, true).1 = M.mk m m (M.starF (M.ent R) m) from rfl, M.mk_rowlen _ _ _ _ ht]; exact hf)
          have hx2 : x = -1000000000000000 := by
            rw [hx, ← HST.out]
            exact M.mk_ent _ _ _ _ _ ht hf
          subst hx2
          rw [show (M.starM R m, true).1 = M.mk m m (M.starF (M.ent R) m) from rfl, M.mk_rowlen _ _ _ _ ht] at hL
          subst hL
          clear hO hb HC hx
          go_wp2
          go_ret2
          exact VRes.nil HE.out HB1.out
        · have HE : M.heavyRes R f' t' = (M.hvL (M.ent R) n t' (M.arcs (M.ent R) n f' t') f' (M.arcs (M.ent R) n f' t' + 1), 0) := by
            unfold M.heavyRes; rw [hs, HR.out, hn, hp]
            rw [if_pos (by rfl), if_pos (by rfl), if_pos (by rfl), if_neg (by rw [Int.toNat_natCast, Int.toNat_natCast]; exact hst)]
            rw [Int.toNat_natCast, Int.toNat_natCast]
          rw [HE]
          exact heaviest_ok _ _ _ _ _ _ _ h hs hf ht hp hst
      · simp only [Bool.not_eq_true] at hp
        have HE : Hid (M.heavyRes R f' t' = ([], 5)) := by
          show _ = _; unfold M.heavyRes; rw [hs, HR.out, hn, hp]; rfl
        have HC : Calls Try.prog 84 #[.slice a n cap] (w.alloc (.cells #[.int .i64 f', .int .i64 t'] 2)) (CPost ([], false) (w.alloc (.cells #[.int .i64 f', .int .i64 t'] 2))) := by
          have := starOf a n cap R _ (HQ.out.below (b_alloc w (.cells #[.int .i64 f', .int .i64 t'] 2)))
          unfold M.starL at this
          rw [hp] at this
          exact this
        clear h hs hn hp
        go_enter Try.func43, Try.ntmps43
        go_wp2_with (first | (go_at_call 82; refine (isSquare_b _ _ _ R _ true HS.out HA.out).mono ?_; rintro e w' ⟨rfl, rfl⟩) | (go_at_call 94; refine (areNodes_b _ n _ _ _ _ _ _ true HN.out (by omega) (ints_lit2 _ _ _)).mono ?_; rintro e w' ⟨rfl, rfl⟩) | (go_at_call 84; refine HC.mono ?_; rintro e w1 ⟨a2, m, cap2, rfl, hO, hb⟩; have HB1 := Lib.hid (bel1 hb); clear hO hb))
        go_ret2
        exact VRes.nil HE.out HB1.out
    · simp only [Bool.not_eq_true] at hn
      have HN : Hid (M.nodesB n [f, t] = false) := by show _ = _; rw [HNE.out, hn]
      have HE : Hid (M.heavyRes R f t = ([], 2)) := by
        show _ = _; unfold M.heavyRes; rw [hs, HR.out, hn]; rfl
      clear h hs hn
      go_enter Try.func43, Try.ntmps43
      go_wp2_with (first | (go_at_call 82; refine (isSquare_b _ _ _ R _ true HS.out HA.out).mono ?_; rintro e w' ⟨rfl, rfl⟩) | (go_at_call 94; refine (areNodes_b _ n _ _ _ _ _ _ false HN.out (by omega) (ints_lit2 _ _ _)).mono ?_; rintro e w' ⟨rfl, rfl⟩))
      go_ret2
      exact VRes.nil HE.out (b_alloc _ _)
  · simp only [Bool.not_eq_true] at hs
    have HS := Lib.hid hs
    have HE : Hid (M.heavyRes R f t = ([], 1)) := by show _ = _; unfold M.heavyRes; rw [hs]; rfl
    clear h hs
    go_enter Try.func43, Try.ntmps43
    go_wp2_with (go_at_call 82; refine (isSquare_b _ _ _ R _ false HS.out HA.out).mono ?_; rintro e w' ⟨rfl, rfl⟩)
    go_ret2
    exact VRes.nil HE.out (Below.refl _ _)
end Go.Proofs.Ytichbgffpflldaa.V
