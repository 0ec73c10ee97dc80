/- Texts laid together: Cpe, Egs, Hv2, Hv3. -/
import Derived.Test.YtjljplolonpldabQb19
import Derived.Test.YtjljplolonpldabQb8
import Derived.Test.YtjljplolonpldabQb4
import Derived.Test.YtjljplolonpldabQb6
import Derived.Test.YtjljplolonpldabQb15
import Derived.Test.YtjljplolonpldabQb9
import Derived.Deep.RegionHeld3
import Derived.Test.YtjljplolonpldabRows
import Derived.Test.YtjljplolonpldabQb1
import Derived.Test.YtjljplolonpldabQb14
import Derived.Test.YtjljplolonpldabQb2
import Derived.WalkKit
import Derived.ProofKit
import Derived.WalkSmall
import Derived.Lib.Hide
import Derived.Deep.OwnRows
import Derived.Maps.AppendAt
set_option linter.unusedSimpArgs false
set_option linter.unusedVariables false
set_option linter.unusedSectionVars false
namespace Go.Proofs.Ytjljplolonpldab
namespace M
def loV (b : Bool) : Int := if b then -1 else 0
def cmpAt (R : List (List Int)) (a b : Int) (x : List Int) (n : Nat) : Int := if cmpSome x n then loV (cmpLo R a b x n) else 1
theorem cmpE_no {R : List (List Int)} {a b : Int} {x : List Int} (h : cmpOk R a b x = false) : cmpE R a b x = 1 := by unfold cmpE; rw [h]; rfl
theorem cmpE_up {R : List (List Int)} {a b : Int} {x : List Int} {k : Nat} (h : cmpOk R a b x = true) (hk : k < x.length) (hu : eigZ a x k < eigY R b x k) : cmpE R a b x = 1 := by
  unfold cmpE
  rw [if_pos h, if_pos]
  unfold cmpUp
  rw [List.any_eq_true]
  exact ⟨k, List.mem_range.2 hk, by rw [decide_eq_true_eq]; exact hu⟩
theorem cmpE_end {R : List (List Int)} {a b : Int} {x : List Int} (h : cmpOk R a b x = true) (hu : cmpUp R a b x x.length = false) : cmpE R a b x = cmpAt R a b x x.length := by
  unfold cmpE cmpAt loV
  rw [if_pos h, hu]
  rfl
theorem up_next (R : List (List Int)) (a b : Int) (x : List Int) (k : Nat) : cmpUp R a b x (k + 1) = (cmpUp R a b x k || decide (eigZ a x k < eigY R b x k)) := any_next _ _
theorem lo_next (R : List (List Int)) (a b : Int) (x : List Int) (k : Nat) : cmpLo R a b x (k + 1) = (cmpLo R a b x k || decide (eigY R b x k < eigZ a x k)) := any_next _ _
theorem some_next (x : List Int) (k : Nat) : cmpSome x (k + 1) = (cmpSome x k || decide (x.getD k 0 ≠ -1000000000000000)) := any_next _ _
theorem cmpOk_of {R : List (List Int)} {a b : Int} {x : List Int} {c d e f : Bool} (h1 : sqB R = c) (h2 : isRat a b = d) (h3 : isVec x = e) (h4 : decide (x.length = R.length) = f) : cmpOk R a b x = (c && d && e && f) := by unfold cmpOk; rw [h1, h2, h3, h4]
end M
namespace V
open Go.RowKit
set_option maxRecDepth 100000 in
set_option maxHeartbeats 400000 in
theorem sStretch (a : Option Addr) (n cap : Nat) (R : List (List Int)) (k : Int) (w : World) (h : Mat w a n R) (hr : Rect R n n) (n1 : 1 ≤ n) (n2 : n ≤ 10) (hs : ∀ i j, i < n → j < n → M.Sm 1000000 (M.ent R i j)) (k1 : 1 ≤ k) (k2 : k ≤ 1000000) :
    Calls Try.prog 74 #[.slice a n cap, .int .i64 k] w (MPost n (M.mk n n (M.shf (M.ent R) 0 k)) w) := by
  have HA := Lib.hid h
  have HR := Lib.hid hr
  have HS := Lib.hid hs
  have HN : Hid (M.Near 0 k) := by show M.Near 0 k; unfold M.Near; omega
  clear h hr hs
  go_enter Try.func74, Try.ntmps74
  go_wp2_with fail
  refine (sShift _ _ _ R 0 k _ HA.out HR.out n1 n2 HS.out HN.out).mono ?_
  rintro e w1 ⟨b, c, rfl, ho, hb⟩
  have HO := Lib.hid ho
  have HB := Lib.hid hb
  clear ho hb
  go_wp2
  go_ret
  exact ⟨_, _, rfl, HO.out, HB.out⟩
end V
end Go.Proofs.Ytjljplolonpldab

namespace Go.Proofs.Ytjljplolonpldab
namespace M
def strRes (R : List (List Int)) (k : Int) : List (List Int) × Int := if sqB R then (if 1 ≤ k ∧ k ≤ 1000000 then (if isMat (shM R 0 k) then (shM R 0 k, 0) else ([], 3)) else ([], 2)) else ([], 1)
theorem strRes_ok (R : List (List Int)) (k : Int) : okM (strRes R k).1 := by
  unfold strRes
  split
  · split
    · split
      · next h => exact .inr h
      · exact .inl rfl
    · exact .inl rfl
  · exact .inl rfl
end M
namespace V
open Go.RowKit
set_option maxRecDepth 100000 in
set_option maxHeartbeats 1000000 in
theorem stretchMatrix (a : Option Addr) (n cap : Nat) (R : List (List Int)) (k : Int) (w : World) (h : Mat w a n R) :
    Calls Try.prog 32 #[.slice a n cap, .int .i64 k] w (MRes (M.strRes R k) w) := by
  have HA := Lib.hid h
  have HRn := Lib.hid h.1
  by_cases hs : M.sqB R = true
  · have HS := Lib.hid hs
    by_cases hk : 1 ≤ k ∧ k ≤ 1000000
    · obtain ⟨r1, n1, n2, r4⟩ := sq_parts HA.out hs
      have HQ := Lib.hid r1
      have HSm := Lib.hid r4
      obtain ⟨k1, k2⟩ := hk
      obtain ⟨b, hb⟩ : ∃ b, b = M.isMat (M.shM R 0 k) := ⟨_, rfl⟩
      have HM := Lib.hid hb.symm
      have HE : Hid (M.strRes R k = if b then (M.shM R 0 k, 0) else ([], 3)) := by
        show _ = _; rw [hb]; unfold M.strRes; rw [if_pos hs, if_pos ⟨k1, k2⟩]
      have HSh : Hid (M.mk n n (M.shf (M.ent R) 0 k) = M.shM R 0 k) := by show _ = _; unfold M.shM; rw [HRn.out]
      have HNr : Hid (M.Near 0 k) := by show M.Near 0 k; unfold M.Near; omega
      clear h hs hb r1 r4
      go_enter Try.func32, Try.ntmps32
      go_wp2_with fail
      refine (isSquare_b _ _ _ R _ true HS.out HA.out).mono ?_
      rintro e w' ⟨rfl, rfl⟩
      go_wp2_with fail
      refine (shiftedBy _ _ _ R _ _ _ HA.out HQ.out n1 n2 HSm.out HNr.out).mono ?_
      rintro e w2 ⟨a2, cap2, rfl, hO, hb⟩
      rw [HSh.out] at hO
      have HO := Lib.hid hO
      have HB2 := Lib.hid hb
      clear hO hb
      cases b with
      | true =>
        go_wp2_with fail
        refine (checkedMatrix_t _ _ _ _ _ HM.out HO.out.mat).mono ?_
        rintro e w' ⟨rfl, rfl⟩
        go_wp2
        go_ret2
        rw [HE.out]
        exact ⟨_, _, _, rfl, HO.out, HB2.out⟩
      | false =>
        go_wp2_with fail
        refine (checkedMatrix_f _ _ _ _ _ HM.out HO.out.mat).mono ?_
        rintro e w' ⟨rfl, rfl⟩
        go_wp2
        go_ret2
        exact MRes.nil HE.out HB2.out
    · have HE : Hid (M.strRes R k = ([], 2)) := by show _ = _; unfold M.strRes; rw [if_pos hs, if_neg hk]
      have hk' : k < 1 ∨ 1000000 < k := by omega
      clear h hs hk
      rcases hk' with hk | hk
      · go_enter Try.func32, Try.ntmps32
        go_wp2_with fail
        refine (isSquare_b _ _ _ R _ true HS.out HA.out).mono ?_
        rintro e w' ⟨rfl, rfl⟩
        go_wp2
        go_ret2
        exact MRes.nil HE.out (Below.refl _ _)
      · have hk1 : ¬ k < 1 := by omega
        go_enter Try.func32, Try.ntmps32
        go_wp2_with fail
        refine (isSquare_b _ _ _ R _ true HS.out HA.out).mono ?_
        rintro e w' ⟨rfl, rfl⟩
        go_wp2
        go_ret2
        exact MRes.nil HE.out (Below.refl _ _)
  · simp only [Bool.not_eq_true] at hs
    have HS := Lib.hid hs
    have HE : Hid (M.strRes R k = ([], 1)) := by show _ = _; unfold M.strRes; rw [hs]; rfl
    clear h hs
    go_enter Try.func32, Try.ntmps32
    go_wp2_with fail
    refine (isSquare_b _ _ _ R _ false HS.out HA.out).mono ?_
    rintro e w' ⟨rfl, rfl⟩
    go_wp2
    go_ret2
    exact MRes.nil HE.out (Below.refl _ _)
set_option maxRecDepth 100000 in
set_option maxHeartbeats 1000000 in
theorem sStretchMatrix (a : Option Addr) (n cap : Nat) (R : List (List Int)) (k : Int) (w : World) (h : Mat w a n R) :
    Calls Try.prog 31 #[.slice a n cap, .int .i64 k] w (MRes (M.strRes R k) w) := by
  have HA := Lib.hid h
  have HRn := Lib.hid h.1
  by_cases hs : M.sqB R = true
  · have HS := Lib.hid hs
    obtain ⟨c, hc⟩ : ∃ c, c = (decide (1 ≤ k) && decide (k ≤ 1000000)) := ⟨_, rfl⟩
    have HC := Lib.hid hc
    cases c with
    | true =>
      have hk : 1 ≤ k ∧ k ≤ 1000000 := by simpa using hc.symm
      obtain ⟨r1, n1, n2, r4⟩ := sq_parts HA.out hs
      have HQ := Lib.hid r1
      have HSm := Lib.hid r4
      obtain ⟨k1, k2⟩ := hk
      obtain ⟨b, hb⟩ : ∃ b, b = M.isMat (M.shM R 0 k) := ⟨_, rfl⟩
      have HM := Lib.hid hb.symm
      have HE : Hid (M.strRes R k = if b then (M.shM R 0 k, 0) else ([], 3)) := by
        show _ = _; rw [hb]; unfold M.strRes; rw [if_pos hs, if_pos ⟨k1, k2⟩]
      have HSh : Hid (M.mk n n (M.shf (M.ent R) 0 k) = M.shM R 0 k) := by show _ = _; unfold M.shM; rw [HRn.out]
      clear h hs hb r1 r4 hc
      go_enter Try.func31, Try.ntmps31
      go_wp2_with fail
      refine (sSquare_b _ _ _ R _ true HS.out HA.out).mono ?_
      rintro e w' ⟨rfl, q, rfl⟩
      go_wp2_with fail
      refine (sIn _ _ _ _).mono ?_
      rintro e w' ⟨rfl, rfl⟩
      rw [← HC.out]
      go_wp2_with fail
      refine (sStretch _ _ _ R k _ (HA.out.below (b_draws _ _)) HQ.out n1 n2 HSm.out k1 k2).mono ?_
      rintro e w2 ⟨a2, cap2, rfl, hO, hb⟩
      rw [HSh.out] at hO
      have HO := Lib.hid hO
      have HB2 := Lib.hid ((b_draws w q).trans hb)
      clear hO hb
      cases b with
      | true =>
        go_wp2_with fail
        refine (sResult _ _ _ _ true HM.out _ HO.out.mat).mono ?_
        rintro e w' ⟨rfl, q2, rfl⟩
        go_wp2
        go_ret2
        rw [HE.out]
        exact ⟨_, _, _, rfl, HO.out.below (b_draws _ _), below_drewN HB2.out _⟩
      | false =>
        go_wp2_with fail
        refine (sResult _ _ _ _ false HM.out _ HO.out.mat).mono ?_
        rintro e w' ⟨rfl, q2, rfl⟩
        go_wp2
        go_ret2
        exact MRes.nil HE.out (below_drewN HB2.out _)
    | false =>
      have HE : Hid (M.strRes R k = ([], 2)) := by
        show _ = _
        unfold M.strRes
        rw [if_pos hs, if_neg]
        intro k
        rw [decide_eq_true k.1, decide_eq_true k.2] at hc
        cases hc
      clear h hs hc
      go_enter Try.func31, Try.ntmps31
      go_wp2_with fail
      refine (sSquare_b _ _ _ R _ true HS.out HA.out).mono ?_
      rintro e w' ⟨rfl, q, rfl⟩
      go_wp2_with fail
      refine (sIn _ _ _ _).mono ?_
      rintro e w' ⟨rfl, rfl⟩
      rw [← HC.out]
      go_wp2
      go_ret2
      exact MRes.nil HE.out (b_draws _ _)
  · simp only [Bool.not_eq_true] at hs
    have HS := Lib.hid hs
    have HE : Hid (M.strRes R k = ([], 1)) := by show _ = _; unfold M.strRes; rw [hs]; rfl
    clear h hs
    go_enter Try.func31, Try.ntmps31
    go_wp2_with fail
    refine (sSquare_b _ _ _ R _ false HS.out HA.out).mono ?_
    rintro e w' ⟨rfl, q, rfl⟩
    go_wp2
    go_ret2
    exact MRes.nil HE.out (b_draws _ _)
end V
end Go.Proofs.Ytjljplolonpldab

namespace Go.Proofs.Ytjljplolonpldab.V
open Go.RowKit

theorem ints_lit2 (w : World) (x y : Int) : Ints .i64 (w.alloc (.cells #[.int .i64 x, .int .i64 y] 2)) (some ⟨w.heap.size, 0, none⟩) 2 [x, y] := by
  refine ⟨rfl, by decide, .inr ⟨_, _, rfl, by simp, fun i hi => ?_⟩⟩
  rcases (show i = 0 ∨ i = 1 by omega) with rfl | rfl <;> simp
theorem own_lit1 (w : World) (B : Nat) (x : Int) (hB : B ≤ w.heap.size) : Own (w.alloc (.cells #[.int .i64 x] 2)) B (.slice (some ⟨w.heap.size, 0, none⟩) 1 1) [x] :=
  World.ownsRow_lit w #[.int .i64 x] 1 hB (by decide) rfl

/-- Three cells, and all that lay there before, outlive a step. -/
theorem keep3h {B : Nat} {w0 w1 w2 : World} {a1 a2 a3 : Addr} {v1 v2 v3 : Value} (h : w1.cell? a1 = some v1 ∧ w1.cell? a2 = some v2 ∧ w1.cell? a3 = some v3 ∧ Below B w0 w1) (h1 : a1.block < B) (h2 : a2.block < B) (h3 : a3.block < B) (hb : Below B w1 w2) :
    w2.cell? a1 = some v1 ∧ w2.cell? a2 = some v2 ∧ w2.cell? a3 = some v3 ∧ Below B w0 w2 :=
  ⟨by rw [hb.cell h1]; exact h.1, by rw [hb.cell h2]; exact h.2.1, by rw [hb.cell h3]; exact h.2.2.1, h.2.2.2.trans hb⟩
theorem below4 {B : Nat} {w0 w1 : World} {A1 A2 A3 : Prop} (h : A1 ∧ A2 ∧ A3 ∧ Below B w0 w1) : Below B w0 w1 := h.2.2.2
set_option maxRecDepth 100000 in
set_option maxHeartbeats 2000000 in
theorem heaviest_ok (a : Option Addr) (n cap : Nat) (R : List (List Int)) (f t : Nat) (w : World) (h : Mat w a n R) (hs : M.sqB R = true) (hf : f < n) (ht : t < n) (hp : M.noPos (M.ent R) n = true) (hst : M.starF (M.ent R) n t f ≠ -1000000000000000) :
    Calls Try.prog 35 #[.slice a n cap, .int .i64 f, .int .i64 t] w (VRes (M.hvL (M.ent R) n t (M.arcs (M.ent R) n f t) f (M.arcs (M.ent R) n f t + 1), 0) w) := by
  have HA := Lib.hid h
  have HS := Lib.hid hs
  have HQ := Lib.hid (sq_of h hs)
  have HSm := Lib.hid (sq_of h hs).2.2.1
  obtain ⟨-, -, -, n1, n2⟩ := sq_of h hs
  obtain ⟨s, hsd⟩ : ∃ s, s = M.arcs (M.ent R) n f t := ⟨_, rfl⟩
  obtain ⟨k1, k2, k3⟩ := M.arcs_is n2 HSm.out hp hf ht hst
  rw [← hsd] at k1 k2 k3 ⊢
  obtain ⟨y, hy⟩ : ∃ y, y = M.starF (M.ent R) n t f := ⟨_, rfl⟩
  rw [← hy] at k1 k3 hst
  have hy0 : (y == -1000000000000000) = false := by simpa using hst
  have HN : Hid (M.nodesB n [(f : Int), (t : Int)] = true) := by
    show _ = _
    simp [M.nodesB, M.inN]; omega
  have HC : Calls Try.prog 62 #[.slice a n cap] (w.alloc (.cells #[.int .i64 f, .int .i64 t] 2)) (CPost (M.starM R n, true) (w.alloc (.cells #[.int .i64 f, .int .i64 t] 2))) := by
    have := starOf a n cap R _ (HQ.out.below (b_alloc w (.cells #[.int .i64 f, .int .i64 t] 2)))
    unfold M.starL at this
    rw [hp] at this
    exact this
  have HK1 := Lib.hid k1
  have HK3 := Lib.hid k3
  have HY := Lib.hid hy
  have HF1 : Hid (M.cpw (M.ent R) n s t f ≠ -1000000000000000) := by show _ ≠ _; rw [k1]; exact hst
  have hfi : (f : Int) < (n : Int) := by omega
  have hti : (t : Int) < (n : Int) := by omega
  clear h hs hp hst k1 k3 hy hsd
  go_enter Try.func35, Try.ntmps35
  go_wp2_with (first | (go_at_call 59; refine (isSquare_b _ _ _ R _ true HS.out HA.out).mono ?_; rintro e w' ⟨rfl, rfl⟩) | (go_at_call 79; refine (areNodes_b _ n _ _ _ _ _ _ true HN.out (by omega) (ints_lit2 _ _ _)).mono ?_; rintro e w' ⟨rfl, rfl⟩))
  refine HC.mono ?_
  rintro e w1 ⟨a2, m, cap2, rfl, hO, hb⟩
  obtain rfl : m = n := by have := hO.len; simpa [M.starM] using this
  have HB1 := Lib.hid (bel1 hb)
  obtain ⟨g, q, L, c, x, rfl, -, -, hL, hx, c1, c2, -, -⟩ := hO.at t f ht (by rw [show (M.starM R m, true).1 = M.mk m m (M.starF (M.ent R) m) from rfl, M.mk_rowlen _ _ _ _ ht]; exact hf)
  have hx2 : x = y := by
    rw [hx, HY.out]
    exact M.mk_ent _ _ _ _ _ ht hf
  subst hx2
  rw [show (M.starM R m, true).1 = M.mk m m (M.starF (M.ent R) m) from rfl, M.mk_rowlen _ _ _ _ ht] at hL
  subst hL
  clear hO hb HC hx
  go_wp2_with fail
  refine (weightsTo _ _ _ R f t s _ _ (HQ.out.below HB1.out) hf ht k2 HK1.out HK3.out).mono ?_
  rintro e w2 ⟨b3, c3, rfl, hW, hb⟩
  have HW := Lib.hid hW
  have HB2 := Lib.hid (bnext HB1.out hb)
  have hz2 : w.heap.size ≤ w2.heap.size := HB2.out.size
  have HP0 : Hid (Own (w2.alloc (.cells #[.int .i64 (f : Int)] 2)) w2.heap.size (.slice (some ⟨w2.heap.size, 0, none⟩) 1 1) (M.hvL (M.ent R) L t s f 1)) := own_lit1 w2 _ _ (Nat.le_refl _)
  clear c1 c2 hW hb
  have hsz : (((s : Int) + 1) - 2) = (s : Int) - 1 := by omega
  go_wp2
  go_loopw [11, 12, 13] (fun o i _ wr => ∃ (k : Nat) (b : Option Addr) (c : Nat) (z : Int), k ≤ s ∧ z = (s : Int) - 1 - (k : Int) ∧ i = .int .i64 z ∧ o = .slice b (k + 1) c ∧ Own wr w2.heap.size (.slice b (k + 1) c) (M.hvL (M.ent R) L t s f (k + 1)) ∧ Below w2.heap.size w2 wr) (fun o _ _ _ => match o with | .slice _ k _ => s + 1 - k | _ => 0)
  case atStart => exact ⟨0, _, _, _, Nat.zero_le _, by omega, rfl, rfl, HP0.out, b_alloc _ _⟩
  case round =>
    obtain ⟨k, b, c, z, hk, hz, rfl, rfl, hO, hb⟩ := hrel
    obtain ⟨wo, rfl⟩ : ∃ x, x = wr := ⟨_, rfl⟩
    have HO := Lib.hid hO
    have HB := Lib.hid hb
    have hzo : w2.heap.size ≤ wo.heap.size := hb.size
    clear hO hb HP0
    by_cases hlt : k < s
    · obtain ⟨u, rfl⟩ : ∃ u : Nat, z = (u : Int) := ⟨z.toNat, by omega⟩
      have hu : u + 1 + k = s := by omega
      obtain ⟨hx1, hx2⟩ := M.xs_inv HSm.out k2 ht hf HF1.out k (by omega)
      rw [show s - k = u + 1 by omega] at hx2
      obtain ⟨hn1, hn2, hn3⟩ := M.nxt_is HSm.out (s := u) (by omega) ht hx1 hx2
      have hxs : M.xs (M.ent R) L t s f (k + 1) = M.nxt (M.ent R) L t u (M.xs (M.ent R) L t s f k) := by
        show M.nxt _ _ _ (s - 1 - k) _ = _
        rw [show s - 1 - k = u by omega]
      obtain ⟨d, od, x1, rfl, -, hx1', cx⟩ := HO.out.ints'.at k (by omega)
      rw [M.hvL_at _ _ _ _ _ _ _ (by omega)] at hx1'
      obtain ⟨xk, hxk⟩ : ∃ xk, xk = M.xs (M.ent R) L t s f k := ⟨_, rfl⟩
      rw [← hxk] at hx1' hx1 hx2 hn1 hn2 hn3 hxs
      subst hx1'
      have hxi : (xk : Int) < (L : Int) := by omega
      obtain ⟨g4, r4, rc4, hg4, cr4, hr4⟩ := (HW.out.below HB.out).row u (by omega)
      obtain ⟨g5, r5, rc5, hg5, cr5, hr5⟩ := (HW.out.below HB.out).row (u + 1) (by omega)
      rw [M.wt_row _ _ _ _ _ (by omega), List.length_map, List.length_range] at cr4 hr4 cr5 hr5
      subst hg4
      injection hg5 with hg5
      injection hg5 with hg5
      subst hg5
      obtain ⟨d6, o6, y6, rfl, -, hy6, c6⟩ := hr5.ints'.at xk hx1
      have hy6' : y6 = M.cpw (M.ent R) L (u + 1) t xk := by rw [hy6]; simp [hx1]
      have HI4 := Lib.hid hr4.ints'
      have hlb : ∀ v, v < L → ((List.range L).map fun j => M.cpw (M.ent R) L u t j).getD v 0 = M.cpw (M.ent R) L u t v := fun v hv => by simp [hv]
      have HC2 : ∀ w', Below wo.heap.size wo w' → Calls Try.prog 81 #[.slice a L cap, .int .i64 xk, .slice r4 L rc4, .int .i64 y6] w' fun e w'' => e = .returned (.int .i64 ((M.xs (M.ent R) L t s f (k + 1) : Nat) : Int)) ∧ Below w'.heap.size w' w'' := by
        intro w' hb'
        rw [hxs]
        refine nextNode _ _ _ R xk _ _ _ _ y6 _ (HQ.out.below (HB2.out.trans ((HB.out.trans (hb'.mono hzo)).mono hz2))) (HI4.out.below hb') hx1 hn1 (fun v hv => ?_) ?_ (fun v hv => ?_)
        · rw [hlb v hv]; exact M.big_sm (M.cpw_sm HSm.out u t v ht hv) (by omega)
        · rw [hlb _ hn1, hn2, hy6']
        · rw [hlb v (by omega), hy6']; exact hn3 v hv
      have HCH := Lib.hid HC2
      obtain ⟨nx, hnx⟩ : ∃ nx : Int, nx = ((M.xs (M.ent R) L t s f (k + 1) : Nat) : Int) := ⟨_, rfl⟩
      rw [← hnx] at HCH
      have HNX : Hid (M.hvL (M.ent R) L t s f (k + 1) ++ [nx] = M.hvL (M.ent R) L t s f (k + 1 + 1)) := by show _ = _; rw [hnx, ← M.hvL_succ]
      have HLn : Hid ((M.hvL (M.ent R) L t s f (k + 1)).length = k + 1) := M.hvL_len _ _ _ _ _ _
      have hs1 : IntKind.i64.wrap ((u : Int) + 1) = (u : Int) + 1 := IntWalk.i64_in _ (by omega)
      have hs2 : ((u : Int) + 1).toNat = u + 1 := by omega
      have hs3 : 0 ≤ (u : Int) + 1 := by omega
      have hs4 : (u : Int) + 1 < (s : Int) + 1 := by omega
      have hs5 : (u : Int) < (s : Int) + 1 := by omega
      have hs6 : ((k : Int) + 1 - 1) = (k : Int) := by omega
      clear hx2 hn1 hn2 hn3 hxs hxk HC2 hnx hr4 hr5 hy6 hy6' hlb hz
      have hB4 : g4 < w2.heap.size := by
        have := HW.out.lt rfl
        exact this
      have hB6 : d6 < w2.heap.size := by
        obtain ⟨g7, r7, rc7, hg7, cr7, hr7⟩ := HW.out.row (u + 1) (by omega)
        injection hg7 with hg7
        injection hg7 with hg7
        subst hg7
        rw [M.wt_row _ _ _ _ _ (by omega), List.length_map, List.length_range] at cr7 hr7
        rw [HB.out.cell (p := ⟨g4, u + 1, none⟩) hB4, cr7] at cr5
        injection cr5 with cr5
        injection cr5 with e1 e2 e3
        subst e1
        exact (own_lt hr7 (k := d6) rfl).2
      go_wp2_with fail
      go_region_held3 (fun w' => w'.cell? ⟨g4, u, none⟩ = some (.slice r4 L rc4) ∧ w'.cell? ⟨g4, u + 1, none⟩ = some (.slice (some ⟨d6, o6, none⟩) L rc5) ∧ w'.cell? ⟨d6, o6 + xk, none⟩ = some (.int .i64 y6) ∧ Below w2.heap.size w2 w')
        (first
          | exact ⟨cr4, cr5, c6, HB.out.drew⟩
          | exact keep3h ‹_ ∧ _ ∧ _ ∧ Below _ _ _› hB4 hB4 hB6 HBa.out
          | exact keep3h ‹_ ∧ _ ∧ _ ∧ Below _ _ _› hB4 hB4 hB6 (HBc.out.mono (below4 ‹_ ∧ _ ∧ _ ∧ Below _ _ _›).size)
          | exact keep3h ‹_ ∧ _ ∧ _ ∧ Below _ _ _› hB4 hB4 hB6 ((b_alloc _ _).mono (below4 ‹_ ∧ _ ∧ _ ∧ Below _ _ _›).size))
        (first
          | (go_at_call 81; refine (HCH.out _ (Below.refl _ _).drew).mono ?_; rintro e w3 ⟨rfl, hb⟩; have HBc := Lib.hid hb; clear hb)
          | (refine step_append1 _ rfl _ _ rfl w2.heap.size _ _ nx _ (k + 1) HLn.out rfl ?ho rfl ?hy ?hl ?hb ?_; (case ho => exact (HO.out.below ((Below.refl _ _).drew.trans (HBc.out))).below (b_alloc _ _)); (case hy => (simp; done)); (case hl => omega); (case hb => exact Nat.le_trans (below4 ‹_ ∧ _ ∧ _ ∧ Below _ _ _›).size (Nat.le_refl _)); intro b4 c4 w4 ho hb; have HO4 := Lib.hid ho; have HBa := Lib.hid hb; clear ho hb))
      have hzc : w2.heap.size ≤ w3.heap.size := Nat.le_trans hzo HBc.out.size
      have HBz := Lib.hid (((HB.out.drew.trans (HBc.out.mono hzo)).alloc hzc _).trans HBa.out)
      rw [HNX.out] at HO4
      go_wp2
      go_roundw
      case rel => exact ⟨k + 1, _, _, _, by omega, by omega, rfl, rfl, HO4.out, HBz.out⟩
      case measure => simp; omega
    · obtain rfl : k = s := by omega
      have hneg : z < 0 := by omega
      clear hz
      go_wp2
      go_ret2
      exact ⟨_, _, _, rfl, HO.out.mono hz2, HB2.out.trans (HB.out.mono hz2)⟩

set_option maxRecDepth 100000 in
set_option maxHeartbeats 1000000 in
theorem heaviestPath (a : Option Addr) (n cap : Nat) (R : List (List Int)) (f t : Int) (w : World) (h : Mat w a n R) :
    Calls Try.prog 35 #[.slice a n cap, .int .i64 f, .int .i64 t] w (VRes (M.heavyRes R f t) w) := by
  have HA := Lib.hid h
  have HR := Lib.hid h.1
  by_cases hs : M.sqB R = true
  · have HS := Lib.hid hs
    have HQ := Lib.hid (sq_of h hs)
    have HSm := Lib.hid (sq_of h hs).2.2.1
    obtain ⟨-, -, -, n1, n2⟩ := sq_of h hs
    have HNE : Hid (M.nodesB n [f, t] = (M.inN n f && M.inN n t)) := by show _ = _; simp [M.nodesB]
    by_cases hn : (M.inN n f && M.inN n t) = true
    · have HN : Hid (M.nodesB n [f, t] = true) := by show _ = _; rw [HNE.out, hn]
      obtain ⟨f', rfl⟩ : ∃ f' : Nat, f = (f' : Int) := by
        rw [Bool.and_eq_true] at hn
        have := M.inN_t hn.1
        exact ⟨f.toNat, by omega⟩
      obtain ⟨t', rfl⟩ : ∃ t' : Nat, t = (t' : Int) := by
        rw [Bool.and_eq_true] at hn
        have := M.inN_t hn.2
        exact ⟨t.toNat, by omega⟩
      have hft : f' < n ∧ t' < n := by
        rw [Bool.and_eq_true] at hn
        have h1 := M.inN_t hn.1
        have h2 := M.inN_t hn.2
        omega
      obtain ⟨hf, ht⟩ := hft
      by_cases hp : M.noPos (M.ent R) n = true
      · by_cases hst : M.starF (M.ent R) n t' f' = -1000000000000000
        · have HE : Hid (M.heavyRes R f' t' = ([], 4)) := by
            show _ = _; unfold M.heavyRes; rw [hs, HR.out, hn, hp]
            rw [if_pos (by rfl), if_pos (by rfl), if_pos (by rfl), if_pos (by rw [Int.toNat_natCast, Int.toNat_natCast]; exact hst)]
          have HC : Calls Try.prog 62 #[.slice a n cap] (w.alloc (.cells #[.int .i64 f', .int .i64 t'] 2)) (CPost (M.starM R n, true) (w.alloc (.cells #[.int .i64 f', .int .i64 t'] 2))) := by
            have := starOf a n cap R _ (HQ.out.below (b_alloc w (.cells #[.int .i64 f', .int .i64 t'] 2)))
            unfold M.starL at this
            rw [hp] at this
            exact this
          have hfi : (f' : Int) < (n : Int) := by omega
          have hti : (t' : Int) < (n : Int) := by omega
          have HST := Lib.hid hst
          clear h hs hn hp hst
          go_enter Try.func35, Try.ntmps35
          go_wp2_with (first | (go_at_call 59; refine (isSquare_b _ _ _ R _ true HS.out HA.out).mono ?_; rintro e w' ⟨rfl, rfl⟩) | (go_at_call 79; refine (areNodes_b _ n _ _ _ _ _ _ true HN.out (by omega) (ints_lit2 _ _ _)).mono ?_; rintro e w' ⟨rfl, rfl⟩))
          refine HC.mono ?_
          rintro e w1 ⟨a2, m, cap2, rfl, hO, hb⟩
          obtain rfl : m = n := by have := hO.len; simpa [M.starM] using this
          have HB1 := Lib.hid (bel1 hb)
          obtain ⟨g, q, L, c, x, rfl, -, -, hL, hx, c1, c2, -, -⟩ := hO.at t' f' ht (by rw [show (M.starM R m, true).1 = M.mk m m (M.starF (M.ent R) m) from rfl, M.mk_rowlen _ _ _ _ ht]; exact hf)
          have hx2 : x = -1000000000000000 := by
            rw [hx, ← HST.out]
            exact M.mk_ent _ _ _ _ _ ht hf
          subst hx2
          rw [show (M.starM R m, true).1 = M.mk m m (M.starF (M.ent R) m) from rfl, M.mk_rowlen _ _ _ _ ht] at hL
          subst hL
          clear hO hb HC hx
          go_wp2
          go_ret2
          exact VRes.nil HE.out HB1.out
        · have HE : M.heavyRes R f' t' = (M.hvL (M.ent R) n t' (M.arcs (M.ent R) n f' t') f' (M.arcs (M.ent R) n f' t' + 1), 0) := by
            unfold M.heavyRes; rw [hs, HR.out, hn, hp]
            rw [if_pos (by rfl), if_pos (by rfl), if_pos (by rfl), if_neg (by rw [Int.toNat_natCast, Int.toNat_natCast]; exact hst)]
            rw [Int.toNat_natCast, Int.toNat_natCast]
          rw [HE]
          exact heaviest_ok _ _ _ _ _ _ _ h hs hf ht hp hst
      · simp only [Bool.not_eq_true] at hp
        have HE : Hid (M.heavyRes R f' t' = ([], 5)) := by
          show _ = _; unfold M.heavyRes; rw [hs, HR.out, hn, hp]; rfl
        have HC : Calls Try.prog 62 #[.slice a n cap] (w.alloc (.cells #[.int .i64 f', .int .i64 t'] 2)) (CPost ([], false) (w.alloc (.cells #[.int .i64 f', .int .i64 t'] 2))) := by
          have := starOf a n cap R _ (HQ.out.below (b_alloc w (.cells #[.int .i64 f', .int .i64 t'] 2)))
          unfold M.starL at this
          rw [hp] at this
          exact this
        clear h hs hn hp
        go_enter Try.func35, Try.ntmps35
        go_wp2_with (first | (go_at_call 59; refine (isSquare_b _ _ _ R _ true HS.out HA.out).mono ?_; rintro e w' ⟨rfl, rfl⟩) | (go_at_call 79; refine (areNodes_b _ n _ _ _ _ _ _ true HN.out (by omega) (ints_lit2 _ _ _)).mono ?_; rintro e w' ⟨rfl, rfl⟩) | (go_at_call 62; refine HC.mono ?_; rintro e w1 ⟨a2, m, cap2, rfl, hO, hb⟩; have HB1 := Lib.hid (bel1 hb); clear hO hb))
        go_ret2
        exact VRes.nil HE.out HB1.out
    · simp only [Bool.not_eq_true] at hn
      have HN : Hid (M.nodesB n [f, t] = false) := by show _ = _; rw [HNE.out, hn]
      have HE : Hid (M.heavyRes R f t = ([], 2)) := by
        show _ = _; unfold M.heavyRes; rw [hs, HR.out, hn]; rfl
      clear h hs hn
      go_enter Try.func35, Try.ntmps35
      go_wp2_with (first | (go_at_call 59; refine (isSquare_b _ _ _ R _ true HS.out HA.out).mono ?_; rintro e w' ⟨rfl, rfl⟩) | (go_at_call 79; refine (areNodes_b _ n _ _ _ _ _ _ false HN.out (by omega) (ints_lit2 _ _ _)).mono ?_; rintro e w' ⟨rfl, rfl⟩))
      go_ret2
      exact VRes.nil HE.out (b_alloc _ _)
  · simp only [Bool.not_eq_true] at hs
    have HS := Lib.hid hs
    have HE : Hid (M.heavyRes R f t = ([], 1)) := by show _ = _; unfold M.heavyRes; rw [hs]; rfl
    clear h hs
    go_enter Try.func35, Try.ntmps35
    go_wp2_with (go_at_call 59; refine (isSquare_b _ _ _ R _ false HS.out HA.out).mono ?_; rintro e w' ⟨rfl, rfl⟩)
    go_ret2
    exact VRes.nil HE.out (Below.refl _ _)
end Go.Proofs.Ytjljplolonpldab.V

namespace Go.Proofs.Ytjljplolonpldab.V
open Go.RowKit

/-- The matrices P, n rows each, in a list of its own; each was made at a world of its own and has stayed since. -/
def Pws (w : World) (B : Nat) (v : Value) (m n : Nat) (P : Nat → List (List Int)) : Prop :=
  ∃ V : List Value, V.length = m ∧ w.ownsRow B 22 1 v m V ∧
    ∀ i, i < m → ∃ (wi : World) (lo : Nat) (b : Option Addr) (c : Nat), V.getD i (.slice none 0 0) = .slice b n c ∧ OwnM wi lo (.slice b n c) (P i) ∧ wi.heap.size ≤ w.heap.size ∧ Same lo wi.heap.size wi w ∧ ∀ k, v.ownBlock = some k → ¬(lo ≤ k ∧ k < wi.heap.size)

theorem OwnM.same {wi w : World} {lo : Nat} {v : Value} {R : List (List Int)} (h : OwnM wi lo v R) (hs : Same lo wi.heap.size wi w) : OwnM w lo v R :=
  h.keep hs
theorem Pws.below {w w' : World} {B : Nat} {v : Value} {m n : Nat} {P : Nat → List (List Int)} (h : Pws w B v m n P) (hb : Below w.heap.size w w') : Pws w' B v m n P := by
  obtain ⟨V, h1, h2, h3⟩ := h
  refine ⟨V, h1, ownsRow_keep h2 (fun k hv => hb.block k (own_lt h2 hv).2), fun i hi => ?_⟩
  obtain ⟨wi, lo, b, c, e, ho, hz, hs, hk⟩ := h3 i hi
  exact ⟨wi, lo, b, c, e, ho, Nat.le_trans hz hb.size, hs.below hb hz, hk⟩
/-- One of the matrices. -/
theorem Pws.at {w : World} {B : Nat} {a : Option Addr} {m n cap : Nat} {P : Nat → List (List Int)} (h : Pws w B (.slice a m cap) m n P) (i : Nat) (hi : i < m) :
    ∃ g b c, a = some ⟨g, 0, none⟩ ∧ w.cell? ⟨g, i, none⟩ = some (.slice b n c) ∧ Mat w b n (P i) := by
  obtain ⟨V, h1, h2, h3⟩ := h
  obtain ⟨a', c', hv, hc, hm, hg⟩ := own_form h2
  injection hv with e1 e2 e3
  subst e1 e3
  obtain ⟨g, rfl, hB, hlt⟩ := hg (by omega)
  obtain ⟨wi, lo, b, c, e, ho, hz, hs, hk⟩ := h3 i hi
  refine ⟨g, b, c, rfl, ?_, (ho.same hs).mat⟩
  rw [World.ownsRow.cellAt h2 i (by omega), ← e]
  simp [show i < V.length by omega]
theorem Pws.caps {w : World} {B : Nat} {a : Option Addr} {m n cap : Nat} {P : Nat → List (List Int)} (h : Pws w B (.slice a m cap) m n P) : m ≤ cap ∧ cap ≤ maxLen := by
  obtain ⟨V, h1, h2, _⟩ := h
  obtain ⟨a', c', hv, k1, k2, _⟩ := own_form h2
  injection hv with e1 e2 e3
  subst e3
  exact ⟨k1, k2⟩
theorem pws_lit1 (w : World) (B n : Nat) (hB : B ≤ w.heap.size) {b : Option Addr} {c : Nat} {M : List (List Int)} (ho : OwnM w B (.slice b n c) M) (P : Nat → List (List Int)) (hP : P 0 = M) :
    Pws (w.alloc (.cells #[.slice b n c] 22)) B (.slice (some ⟨w.heap.size, 0, none⟩) 1 1) 1 n P := by
  refine ⟨[.slice b n c], rfl, World.ownsRow_lit w #[.slice b n c] 1 hB (by decide) rfl, fun i hi => ?_⟩
  obtain rfl : i = 0 := by omega
  refine ⟨w, B, b, c, rfl, by rw [hP]; exact ho, (b_alloc w _).size, (Same.refl B w.heap.size w).below (b_alloc w _) (Nat.le_refl _), fun k hk => ?_⟩
  simp only [Value.ownBlock, Option.some.injEq] at hk
  omega
theorem infoM64 : (Try.prog.info? 22).map (fun i => (i.zero, i.size, i.bytes)) = some (some (.slice none 0 0), 1, 24) := by kernel_rfl

theorem appendMat (w0 w : World) {ops : Array Oper} {rest : List Oper} {o : Oper} {a : Act} {Q : Exit → Act → World → Prop} (hgd : o.guard = none) (s x : Operand)
    (ho : o.op = .call { callee := .builtin .append, args := #[s, x], argTypes := #[79, 79] }) (B : Nat) (v : Value) (b : Option Addr) (c m n : Nat) (P : Nat → List (List Int)) (M : List (List Int)) (hs : a.eval s = v) (hown : Pws w0 B v m n P) (hb : Below w0.heap.size w0 w) (hro : OwnM w w0.heap.size (.slice b n c) M) (hPm : P m = M)
    (hx : a.eval x = .slice (some ⟨w.heap.size, 0, none⟩) 1 1) (hlen : m ≤ 2000000) (hB : B ≤ w0.heap.size)
    (h : ∀ b' c' w', Pws w' B (.slice b' (m + 1) c') (m + 1) n P → Below B w w' → wpList Try.prog ops Q rest (a.put o.dst (.slice b' (m + 1) c')) w') :
    wpList Try.prog ops Q (o :: rest) a (w.alloc (.cells #[.slice b n c] 22)) := by
  obtain ⟨i0, hi, hz0, hz1, hz2⟩ := info_parts infoM64
  have hsz := hb.size
  obtain ⟨V, h1, h2, h3⟩ := hown
  have hwV : w.ownsRow B 22 1 v m V := ownsRow_keep h2 (fun k hv => hb.block k (own_lt h2 hv).2)
  have hown2 : (w.alloc (.cells #[.slice b n c] 22)).ownsRow B 22 1 v m V := World.ownsRow.alloc hwV _
  refine wpList_append_own_at (w := w.alloc (.cells #[.slice b n c] 22)) hgd s x 79 ho B 22 i0 (.slice none 0 0) 1 24 Try.underlying79 hi hz0 hz1 hz2 rfl (by decide) v _ _ hs hown2 ⟨w.heap.size, 0, none⟩ 1 1 [.slice b n c] hx rfl (cell_one_new _ _ _) ?c2 ?c3 ?c4 ?c5 ?_
  case c2 => intro u hu; simp at hu; subst hu; rfl
  case c3 => unfold maxLen; omega
  case c4 => omega
  case c5 => simp; omega
  · intro v' w' hownV' hgrow hz hvb
    have hbel : Below B w w' := ((Below.refl B w).alloc (Nat.le_trans hB hsz) _).grown hgrow (by simp; omega) (fun k hk => (own_lt h2 hk).1)
    obtain ⟨g1, g2, g3, g4, g5⟩ := hgrow
    have hg : ∀ k, k < w.heap.size → v.ownBlock ≠ some k → w'.heap[k]? = w.heap[k]? := fun k hk hne => by
      rw [g5 k (by simp; omega) (fun e => hne e.symm), Below.heap_alloc _ _ _ hk]
    have hP : Pws w' B v' (m + 1) n P := by
      refine ⟨V ++ [.slice b n c], by simp [h1], by simpa using hownV', fun i hi => ?_⟩
      by_cases e : i < m
      · obtain ⟨wi, lo, bi, ci, ei, hoi, hzi, hsi, hki⟩ := h3 i e
        refine ⟨wi, lo, bi, ci, by rw [← ei]; simp [List.getD_eq_getElem?_getD, List.getElem?_append_left, h1, e], hoi, by have := hbel.size; omega, fun k k1 k2 => ?_, fun k hk => ?_⟩
        · rw [hg k (by omega) (fun e2 => hki k e2 ⟨k1, k2⟩), hb.block k (by omega)]
          exact hsi k k1 k2
        · rcases hvb with e2 | e2
          · rw [e2] at hk; exact hki k hk
          · rw [e2] at hk
            simp only [Option.some.injEq] at hk
            have : (w.alloc (.cells #[.slice b n c] 22)).heap.size = w.heap.size + 1 := by simp
            omega
      · obtain rfl : i = m := by omega
        refine ⟨w, w0.heap.size, b, c, by simp [List.getD_eq_getElem?_getD, ← h1], by rw [hPm]; exact hro, hbel.size, fun k k1 k2 => ?_, fun k hk => ?_⟩
        · exact hg k k2 (fun e2 => by have := (own_lt h2 e2).2; omega)
        · rcases hvb with e2 | e2
          · rw [e2] at hk
            have := (own_lt h2 hk).2
            omega
          · rw [e2] at hk
            simp only [Option.some.injEq] at hk
            have : (w.alloc (.cells #[.slice b n c] 22)).heap.size = w.heap.size + 1 := by simp
            omega
    obtain ⟨b', c', hv', _⟩ := own_form hP.choose_spec.2.1
    subst hv'
    exact h b' c' w' hP hbel

set_option maxRecDepth 100000 in
set_option maxHeartbeats 400000 in
theorem sNode (a : Option Addr) (n cap : Nat) (x : Int) (w : World) (hn : n ≤ 1000) : Calls Try.prog 82 #[.slice a n cap, .int .i64 x] w fun e w' => e = .returned (.bool (M.inN n x)) ∧ w = w' := by
  go_enter Try.func82, Try.ntmps82
  go_wp2_with fail
  refine (sIn _ _ _ _).mono ?_
  rintro e w' ⟨rfl, rfl⟩
  go_wp2
  go_ret
  exact ⟨retB (by unfold M.inN; rw [Bool.eq_iff_iff]; simp; omega), rfl⟩
theorem sNode_b (a : Option Addr) (n cap : Nat) (x : Int) (w : World) (b : Bool) (hb : M.inN n x = b) (hn : n ≤ 1000) : Calls Try.prog 82 #[.slice a n cap, .int .i64 x] w fun e w' => e = .returned (.bool b) ∧ w = w' := by
  subst hb; exact sNode a n cap x w hn
end Go.Proofs.Ytjljplolonpldab.V
