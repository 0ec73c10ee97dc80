/- Texts laid together: Hv4, IAdd2, Itz, Like, Mat2, MatJ, Rat4. -/
import Derived.Test.YtjljplolonpldabQb20
import Derived.Test.YtjljplolonpldabQb6
import Derived.Deep.RegionHeld3
import Derived.Deep.RegionWith
import Derived.Test.YtjljplolonpldabRows
import Derived.Test.YtjljplolonpldabQb1
import Derived.Test.YtjljplolonpldabQb2
import Derived.WalkKit
import Derived.ProofKit
import Derived.WalkSmall
import Derived.Deep.QuietTactic
import Derived.BigQuiet
import Derived.BigRegion
import Derived.Deep.Draws
import Derived.Lib.Hide
import Derived.OpenShut
import Derived.Deep.OwnRows
import Derived.Test.YtjljplolonpldabQb3
import Derived.StillTailTactics
import Derived.Test.YtjljplolonpldabQb13
import Derived.Test.YtjljplolonpldabQb14
import Derived.Test.YtjljplolonpldabQb8
set_option linter.unusedSimpArgs false
set_option linter.unusedVariables false
set_option linter.unusedSectionVars false
namespace Go.Proofs.Ytjljplolonpldab.V
open Go.RowKit

/-- The powers of a matrix. -/
def M.pwL (R : List (List Int)) (n s : Nat) : List (List Int) := M.mk n n (M.cpw (M.ent R) n s)
theorem M.pw_next (R : List (List Int)) (n s : Nat) : M.mk n n (fun i j => M.dot (M.pwL R n s) R i j n) = M.pwL R n (s + 1) :=
  M.mk_congr fun i hi j _ => by
    unfold M.dot
    refine M.sumN_congr fun u hu => ?_
    unfold M.pwL
    rw [M.ent_mk _ _ _ _ _ hi hu]
theorem M.times_comm (x y : Int) : M.times x y = M.times y x := by
  unfold M.times
  by_cases h : x = -1000000000000000 ∨ y = -1000000000000000
  · rw [if_pos h, if_pos (Or.symm h)]
  · rw [if_neg h, if_neg (fun h2 => h (Or.symm h2)), Int.add_comm]

/-- What the search has found among the numbers from p on. -/
def Fnd (L p : Nat) (P : Nat → Prop) (z : Int) : Prop := (z = -1 ∧ ∀ i, p ≤ i → i < L → ¬ P i) ∨ ∃ j : Nat, z = (j : Int) ∧ p ≤ j ∧ j < L ∧ P j ∧ ∀ i, p ≤ i → i < j → ¬ P i
theorem Fnd.start (L : Nat) (P : Nat → Prop) : Fnd L L P (-1) := .inl ⟨rfl, fun i h1 h2 => absurd h2 (by omega)⟩
theorem Fnd.no {L p : Nat} {P : Nat → Prop} {z : Int} (h : Fnd L (p + 1) P z) (hp : ¬ P p) : Fnd L p P z := by
  rcases h with ⟨h1, h2⟩ | ⟨j, h1, h2, h3, h4, h5⟩
  · refine .inl ⟨h1, fun i a b => ?_⟩
    by_cases e : i = p
    · subst e; exact hp
    · exact h2 i (by omega) b
  · refine .inr ⟨j, h1, by omega, h3, h4, fun i a b => ?_⟩
    by_cases e : i = p
    · subst e; exact hp
    · exact h5 i (by omega) b
theorem Fnd.yes {L p : Nat} {P : Nat → Prop} (hp : P p) (hl : p < L) : Fnd L p P (p : Int) := .inr ⟨p, rfl, Nat.le_refl _, hl, hp, fun i a b => absurd b (by omega)⟩
theorem Fnd.fin {L m : Nat} {P : Nat → Prop} {z : Int} (h : Fnd L 0 P z) (hm : P m) (hl : m < L) (hf : ∀ v, v < m → ¬ P v) : z = (m : Int) := by
  rcases h with ⟨h1, h2⟩ | ⟨j, h1, h2, h3, h4, h5⟩
  · exact absurd hm (h2 m (Nat.zero_le _) hl)
  · have a1 : ¬ j < m := fun e => hf j e h4
    have a2 : ¬ m < j := fun e => h5 m (Nat.zero_le _) e hm
    omega
set_option maxRecDepth 100000 in
set_option maxHeartbeats 4000000 in
theorem sHeaviest_ok (a : Option Addr) (n cap : Nat) (R : List (List Int)) (f t : Nat) (w : World) (h : Mat w a n R) (hs : M.sqB R = true) (hf : f < n) (ht : t < n) (hp : M.noPos (M.ent R) n = true) (hst : M.starF (M.ent R) n t f ≠ -1000000000000000) :
    Calls Try.prog 36 #[.slice a n cap, .int .i64 f, .int .i64 t] w (VRes (M.hvL (M.ent R) n t (M.arcs (M.ent R) n f t) f (M.arcs (M.ent R) n f t + 1), 0) w) := by
  have HA := Lib.hid h
  have HS := Lib.hid hs
  have HQ := Lib.hid (sq_of h hs)
  have HSm := Lib.hid (sq_of h hs).2.2.1
  obtain ⟨-, -, -, n1, n2⟩ := sq_of h hs
  have HRB : Hid (∀ i j, i < n → j < n → M.Big (M.ent R i j)) := fun i j hi hj => M.big_sm (HSm.out i j hi hj) (by omega)
  obtain ⟨s, hsd⟩ : ∃ s, s = M.arcs (M.ent R) n f t := ⟨_, rfl⟩
  obtain ⟨k1, k2, k3⟩ := M.arcs_is n2 HSm.out hp hf ht hst
  rw [← hsd] at k1 k2 k3 ⊢
  obtain ⟨y, hy⟩ : ∃ y, y = M.starF (M.ent R) n t f := ⟨_, rfl⟩
  rw [← hy] at k1 k3 hst
  have hy0 : (y == -1000000000000000) = false := by simpa using hst
  have HNf : Hid (M.inN n (f : Int) = true) := by show _ = _; simp [M.inN]; omega
  have HNt : Hid (M.inN n (t : Int) = true) := by show _ = _; simp [M.inN]; omega
  have HC : ∀ w1, Below w.heap.size w w1 → Calls Try.prog 56 #[.slice a n cap] w1 fun e w' => ∃ b c, e = .returned (.tuple #[.slice b n c, .bool true]) ∧ OwnM w' w1.heap.size (.slice b n c) (M.starM R n) ∧ Below w1.heap.size w1 w' := by
    intro w1 hb
    have := sStar a n cap R w1 (HQ.out.below hb)
    rw [hp, M.bm_star n2 HSm.out hp] at this
    exact this
  have HK1 := Lib.hid k1
  have HK3 := Lib.hid k3
  have HY := Lib.hid hy
  have HF1 : Hid (M.cpw (M.ent R) n s t f ≠ -1000000000000000) := by show _ ≠ _; rw [k1]; exact hst
  have hfi : (f : Int) < (n : Int) := by omega
  have hti : (t : Int) < (n : Int) := by omega
  clear h hs hp hst k1 k3 hy hsd
  go_enter Try.func36, Try.ntmps36
  go_wp2_with (first | (go_at_call 55; refine (sSquare_b _ _ _ R _ true HS.out HA.out).mono ?_; rintro e w' ⟨rfl, q, rfl⟩))
  refine (sNode_b _ n _ _ _ true HNf.out (by omega)).mono ?_
  rintro e w' ⟨rfl, rfl⟩
  go_wp2_with fail
  refine (sNode_b _ n _ _ _ true HNt.out (by omega)).mono ?_
  rintro e w' ⟨rfl, rfl⟩
  go_wp2_with fail
  refine (HC _ (b_draws _ _)).mono ?_
  rintro e w1 ⟨a2, cap2, rfl, hO, hb⟩
  have HB1 := Lib.hid (bnext (b_draws w q) hb)
  have HO1 := Lib.hid hO
  obtain ⟨g, sq, L, c, x, rfl, -, -, hL, hx, c1, c2, -, -⟩ := hO.at t f ht (by rw [show M.starM R n = M.mk n n (M.starF (M.ent R) n) from rfl, M.mk_rowlen _ _ _ _ ht]; exact hf)
  have hx2 : x = y := by
    rw [hx, HY.out]
    exact M.mk_ent _ _ _ _ _ ht hf
  subst hx2
  rw [show M.starM R n = M.mk n n (M.starF (M.ent R) n) from rfl, M.mk_rowlen _ _ _ _ ht] at hL
  subst hL
  have HSC : Hid (∀ w', Below w1.heap.size w1 w' → w'.cell? ⟨g, t, none⟩ = some (.slice (some ⟨sq, 0, none⟩) L c) ∧ w'.cell? ⟨sq, f, none⟩ = some (.int .i64 x)) := fun w' hb' => by
    have l1 : g < w1.heap.size := hO.lt rfl
    have l2 : sq < w1.heap.size := cell_lt c2
    rw [hb'.cell (p := ⟨g, t, none⟩) l1, hb'.cell (p := ⟨sq, f, none⟩) l2]
    exact ⟨c1, c2⟩
  clear hO hb HC hx
  go_wp2_with fail
  refine (sUnit L _ (by omega)).mono ?_
  rintro e w2 ⟨a3, cap3, rfl, hU, hb⟩
  have hP0 : Pws (w2.alloc (.cells #[.slice a3 L cap3] 22)) w1.heap.size (.slice (some ⟨w2.heap.size, 0, none⟩) 1 1) 1 L (M.pwL R L) := pws_lit1 w2 _ L hb.size hU _ rfl
  have HP0 := Lib.hid hP0
  have HB2 : Hid (Below w1.heap.size w1 (w2.alloc (.cells #[.slice a3 L cap3] 22))) := hb.alloc hb.size _
  have hz1 : w.heap.size ≤ w1.heap.size := HB1.out.size
  clear hU hb c1 c2 hP0
  go_wp2
  go_loopw [10] (fun o wr => ∃ (k : Nat) (b : Option Addr) (c : Nat), k ≤ s ∧ o = .slice b (k + 1) c ∧ Pws wr w1.heap.size (.slice b (k + 1) c) (k + 1) L (M.pwL R L) ∧ Below w1.heap.size w1 wr) (fun o _ => match o with | .slice _ k _ => s + 1 - k | _ => 0)
  case atStart => exact ⟨0, _, _, Nat.zero_le _, rfl, HP0.out, HB2.out⟩
  case round =>
    obtain ⟨k, b, cc, hk, rfl, hP, hb⟩ := hrel
    obtain ⟨wo, rfl⟩ : ∃ x, x = wr := ⟨_, rfl⟩
    have HP := Lib.hid hP
    have HB := Lib.hid hb
    have hzo : w1.heap.size ≤ wo.heap.size := hb.size
    obtain ⟨gp, bm, cm, rfl, cp, hM⟩ := hP.at k (by omega)
    have HM := Lib.hid hM
    obtain ⟨mb, mo, rb, ro, rc, z, rfl, hz, cz1, cz2⟩ := hM.rect_ent (rect_mk _ _ _) t f ht hf
    have hz2 : z = M.cpw (M.ent R) L k t f := by rw [hz]; exact M.mk_ent _ _ _ _ _ ht hf
    have HZ := Lib.hid hz2
    obtain ⟨cs1, cs2⟩ := HSC.out _ HB.out
    have hi1 : ((k : Int) + 1 - 1) = (k : Int) := by omega
    have hi2 : IntKind.i64.wrap ((k : Int) + 1 - 1) = (k : Int) := by rw [hi1]; exact IntWalk.i64_in _ (by omega)
    clear hP hb HP0 HB2 hM hz hz2
    by_cases hlt : k < s
    · have hne : (z == x) = false := by
        have := HK3.out k hlt
        rw [← HZ.out] at this
        simpa using this
      have hne2 : (z != x) = true := by simpa using hne
      have HPB : Hid (∀ i j, i < L → j < L → M.Big (M.ent (M.pwL R L k) i j)) := fun i j hi hj => by
        unfold M.pwL
        rw [M.ent_mk _ _ _ _ _ hi hj]
        exact M.big_sm (M.cpw_sm HSm.out k i j hi hj) (by omega)
      go_wp2
      go_quiet (fail)
      have HC4 : ∀ w', Below w1.heap.size w1 w' → Mat w' (some ⟨mb, mo, none⟩) L (M.pwL R L k) → Calls Try.prog 58 #[.slice (some ⟨mb, mo, none⟩) L cm, .slice a L cap] w' (MPost L (M.pwL R L (k + 1)) w') := by
        intro w' hb' hm'
        have := sMultiplyB (some ⟨mb, mo, none⟩) L cm L (M.pwL R L k) a cap L R w' hm' (HQ.out.1.below (HB1.out.trans (hb'.mono hz1))) (rect_mk _ _ _) HQ.out.2.1 HPB.out HRB.out n1 n2 n1 n2 n1 n2
        rw [M.pw_next] at this
        exact this
      go_wp2_with fail
      refine (HC4 _ (below_drewN HB.out _) (HM.out.below (b_draws _ _))).mono ?_
      rintro e w3 ⟨a4, c4, rfl, hM4, hb3⟩
      have HM4 := Lib.hid hM4
      have HB3 := Lib.hid hb3
      have HB3' := Lib.hid ((below_drewN HB.out _).trans (hb3.mono hzo))
      clear hM4 hb3
      go_wp2_with (at_builtin; refine appendMat _ _ rfl (.tmp 71) (.tmp 80) rfl w1.heap.size _ _ _ (k + 1) L (M.pwL R L) _ rfl (HP.out.below (b_draws _ _)) HB3.out HM4.out rfl rfl (by omega) hzo ?_)
      intro b5 c5 w5 hP5 hb5
      have HP5 := Lib.hid hP5
      have HB5 := Lib.hid (HB3'.out.trans hb5)
      clear hP5 hb5
      go_wp2
      go_roundw
      case rel => exact ⟨k + 1, _, _, by omega, rfl, HP5.out, HB5.out⟩
      case measure => simp; omega
    · obtain rfl : k = s := by omega
      obtain rfl : z = x := by rw [HZ.out]; exact HK1.out
      go_wp2
      go_quiet (fail)
      go_wp2_with fail
      go_region_held3 (fun w' => w'.cell? ⟨g, t, none⟩ = some (.slice (some ⟨sq, 0, none⟩) L c) ∧ w'.cell? ⟨sq, f, none⟩ = some (.int .i64 z))
        (first | exact HSC.out _ (below_drewN HB.out _).drew | exact HSC.out _ ((below_drewN HB.out _).drew.alloc hzo _) | go_keep)
        (fail)
      have hfl : Hid ([(f : Int)] = M.hvL (M.ent R) L t k f 1) := rfl
      have HNd : Hid (z = M.cpw (M.ent R) L (k - 0) t (M.xs (M.ent R) L t k f 0)) := HK1.out.symm
      have HPo := Lib.hid HP.out
      clear cz1 cz2 cs1 cs2 hi1 hi2 cp
      go_wp2
      go_loopw [11, 12, 13, 14, 15, 16] (fun o nd i _ _ _ wr => ∃ (m : Nat) (b : Option Addr) (c : Nat) (u v : Int), m ≤ k ∧ u = (k : Int) - 1 - (m : Int) ∧ i = .int .i64 u ∧ o = .slice b (m + 1) c ∧ nd = .int .i64 v ∧ Hid (v = M.cpw (M.ent R) L (k - m) t (M.xs (M.ent R) L t k f m)) ∧ Own wr wo.heap.size (.slice b (m + 1) c) (M.hvL (M.ent R) L t k f (m + 1)) ∧ Below wo.heap.size wo wr) (fun o _ _ _ _ _ _ => match o with | .slice _ m _ => k + 1 - m | _ => 0)
      case atStart => exact ⟨0, _, _, _, _, Nat.zero_le _, by omega, rfl, rfl, rfl, HNd, (congrArg (Own _ _ _) hfl.out).mp (own_lit1 _ _ _ (Nat.le_refl _)), (b_draws _ _).alloc (Nat.le_refl _) _⟩
      case round =>
        obtain ⟨m, b, c', u, v, hm, hu, rfl, rfl, rfl, HV, hO, hb⟩ := hrel
        obtain ⟨wp, rfl⟩ : ∃ x, x = wr := ⟨_, rfl⟩
        have HO := Lib.hid hO
        have HBp := Lib.hid hb
        have hzp : wo.heap.size ≤ wp.heap.size := hb.size
        clear hO hb HNd
        by_cases hmk : m < k
        · obtain ⟨e, rfl⟩ : ∃ e : Nat, u = (e : Int) := ⟨u.toNat, by omega⟩
          have he : e + 1 + m = k := by omega
          obtain ⟨hx1, hx2⟩ := M.xs_inv HSm.out k2 ht hf HF1.out m (by omega)
          have hneed := M.xs_need HSm.out k2 ht hf HF1.out m hmk
          rw [← HV.out] at hx2 hneed
          have hxs : M.xs (M.ent R) L t k f (m + 1) = M.nxt (M.ent R) L t e (M.xs (M.ent R) L t k f m) := by
            show M.nxt _ _ _ (k - 1 - m) _ = _
            rw [show k - 1 - m = e by omega]
          have hke : k - m = e + 1 := by omega
          have hv' := HV.out
          rw [hke] at hv'
          obtain ⟨d, od, x1, rfl, -, hx1', cx⟩ := HO.out.ints'.at m (by omega)
          rw [M.hvL_at _ _ _ _ _ _ _ (by omega)] at hx1'
          obtain ⟨xk, hxk⟩ : ∃ xk, xk = M.xs (M.ent R) L t k f m := ⟨_, rfl⟩
          rw [← hxk] at hx1' hx1 hneed hxs hv'
          subst hx1'
          have hxi : (xk : Int) < (L : Int) := by omega
          obtain ⟨hn1, hn2, hn3⟩ := M.nxt_is HSm.out (s := e) (x := xk) (by omega) ht hx1 (by rw [← hv']; exact hx2)
          rw [← hxs] at hn1 hn2 hn3
          obtain ⟨nx, hnx⟩ : ∃ nx, nx = M.xs (M.ent R) L t k f (m + 1) := ⟨_, rfl⟩
          rw [← hnx] at hn1 hn2 hn3 hneed
          rw [← hv'] at hn2 hn3
          have HN2 := Lib.hid hn2
          have HN3 := Lib.hid hn3
          obtain ⟨gq, be, ce, hgq, ce1, hMe⟩ := (HP.out.below HBp.out).at e (by omega)
          injection hgq with hgq
          injection hgq with hgq
          subst hgq
          have HME := Lib.hid hMe
          have HAp := Lib.hid (HQ.out.below (HB1.out.trans ((HB.out.trans (HBp.out.mono hzo)).mono hz1)))
          obtain ⟨dn, odn, rdn, rdno, cn4, an, rfl, han, cn1, cn2⟩ := HAp.out.1.rect_ent HAp.out.2.1 nx xk hn1 hx1
          have HNX : Hid (M.hvL (M.ent R) L t k f (m + 1) ++ [(nx : Int)] = M.hvL (M.ent R) L t k f (m + 1 + 1)) := by show _ = _; rw [hnx, ← M.hvL_succ]
          have HLn : Hid ((M.hvL (M.ent R) L t k f (m + 1)).length = m + 1) := M.hvL_len _ _ _ _ _ _
          have HNE : Hid (v - an = M.cpw (M.ent R) L (k - (m + 1)) t (M.xs (M.ent R) L t k f (m + 1))) := by show _ = _; rw [← hnx, hneed, han]
          have HVB : Hid (-100000000000000 ≤ v ∧ v ≤ 100000000000000) := by
            have h1 := M.cpw_sm HSm.out (e + 1) t xk ht hx1
            rw [← hv'] at h1
            unfold M.Sm at h1
            show _ ∧ _
            omega
          have HAB : Hid (-10000000000000 ≤ an ∧ an ≤ 10000000000000) := by
            have h1 := HSm.out nx xk hn1 hx1
            have h2 := (M.nxt_fin HSm.out (s := e) (x := xk) (by omega) ht hx1 (by rw [← hv']; exact hx2)).2
            rw [← hxs, ← hnx] at h2
            rw [← han] at h1 h2
            unfold M.Sm at h1
            show _ ∧ _
            omega
          obtain ⟨vb1, vb2⟩ := HVB.out
          obtain ⟨ab1, ab2⟩ := HAB.out
          have hnxi : (nx : Int) < (L : Int) := by omega
          have hei : (e : Int) < (k : Int) + 1 := by omega
          have hv0 : (v == -1000000000000000) = false := by simpa using hx2
          clear hx2 hneed hxs hv' hn2 hn3 hMe han hxk hnx hu
          obtain ⟨P, hP⟩ : ∃ P : Nat → Prop, P = fun i => M.times (M.cpw (M.ent R) L e t i) (M.ent R i xk) = v := ⟨_, rfl⟩
          have HPp := Lib.hid hP
          have hQ0 : Hid (Fnd L L P (-1)) := Fnd.start L P
          have hgE : ∃ bb bo, be = some ⟨bb, bo, none⟩ := by
            obtain ⟨b2, off2, _, _, hbe, _, _⟩ := HME.out.rect_first (rect_mk _ _ _) (by omega)
            exact ⟨b2, off2, hbe⟩
          obtain ⟨bb, bo, rfl⟩ := hgE
          clear hP
          go_wp2
          go_loopw [15, 16] (fun nv iv wr => ∃ (p : Nat) (i y : Int), p ≤ L ∧ i = (p : Int) - 1 ∧ iv = .int .i64 i ∧ nv = .int .i64 y ∧ Hid (Fnd L p P y) ∧ ∃ q, wr = wp.drewN q) (fun _ iv _ => (intOf iv + 1).toNat)
          case atStart => exact ⟨L, _, _, Nat.le_refl _, rfl, rfl, rfl, hQ0, 0, rfl⟩
          case round =>
            obtain ⟨p, i, y, hp, hi, rfl, rfl, HFd, q3, rfl⟩ := hrel
            clear hQ0
            by_cases hp0 : 0 < p
            · obtain ⟨p', rfl⟩ : ∃ p', p = p' + 1 := ⟨p - 1, by omega⟩
              obtain rfl : i = (p' : Int) := by omega
              clear hi
              have hpi : (p' : Int) < (L : Int) := by omega
              obtain ⟨d1, od1, rd1, rdo1, cn5, x2, hd1, hx2, cx1, cx2⟩ := HAp.out.1.rect_ent HAp.out.2.1 p' xk (by omega) hx1
              injection hd1 with hd1
              injection hd1 with e1 e2
              subst e1 e2
              obtain ⟨d2, od2, rd2, rdo2, cn6, y2, hd2, hy2, cy1, cy2⟩ := HME.out.rect_ent (rect_mk _ _ _) t p' ht (by omega)
              injection hd2 with hd2
              injection hd2 with e1 e2
              subst e1 e2
              have hy2' : y2 = M.cpw (M.ent R) L e t p' := by rw [hy2]; exact M.mk_ent _ _ _ _ _ ht (by omega)
              have HX2 : Hid (M.Big x2) := by show M.Big _; rw [hx2]; exact HRB.out p' xk (by omega) hx1
              have HY2 : Hid (M.Big y2) := by show M.Big _; rw [hy2']; exact M.big_sm (M.cpw_sm HSm.out e t p' ht (by omega)) (by omega)
              have HPP : Hid (P p' ↔ M.times x2 y2 = v) := by
                show _ ↔ _
                rw [HPp.out, M.times_comm x2 y2, hx2, hy2']
              by_cases hb0 : x2 = -1000000000000000
              · have HNo : Hid (Fnd L p' P y) := HFd.out.no (fun h => by
                  have := HPP.out.1 h
                  rw [hb0, M.bot_times] at this
                  rw [← this] at hv0
                  simp at hv0)
                clear hx2 hy2 hy2'
                subst hb0
                go_wp2
                go_quiet (fail)
                go_wp2
                go_roundw
                case rel => exact ⟨p', _, _, by omega, rfl, rfl, rfl, HNo, _, rfl⟩
                case measure => simp [intOf]
              · have hb1 : (x2 == -1000000000000000) = false := by simpa using hb0
                have hb2 : (x2 != -1000000000000000) = true := by simpa using hb0
                obtain ⟨u2, hu2⟩ : ∃ u2, u2 = M.times x2 y2 := ⟨_, rfl⟩
                have HU2 := Lib.hid hu2
                have HC1 : ∀ w : World, Calls Try.prog 84 #[.int .i64 x2, .int .i64 y2] w fun e w' => e = .returned (.int .i64 u2) ∧ w = w' := by
                  intro w
                  rw [hu2]
                  exact sTimesB _ _ _ HX2.out HY2.out
                clear hx2 hy2 hy2' hu2 hb0
                by_cases huv : u2 = v
                · have HYes : Hid (Fnd L p' P (p' : Int)) := Fnd.yes (HPP.out.2 (by rw [← HU2.out]; exact huv)) (by omega)
                  subst huv
                  go_wp2
                  go_quiet ((go_at_call 84; exact q_more_s (HC1 _)))
                  go_wp2
                  go_roundw
                  case rel => exact ⟨p', _, _, by omega, rfl, rfl, rfl, HYes, _, rfl⟩
                  case measure => simp [intOf]
                · have huv1 : (u2 == v) = false := by simpa using huv
                  have HNo : Hid (Fnd L p' P y) := HFd.out.no (fun h => huv (by rw [HU2.out]; exact HPP.out.1 h))
                  clear huv
                  go_wp2
                  go_quiet ((go_at_call 84; exact q_more_s (HC1 _)))
                  go_wp2
                  go_roundw
                  case rel => exact ⟨p', _, _, by omega, rfl, rfl, rfl, HNo, _, rfl⟩
                  case measure => simp [intOf]
            · obtain rfl : p = 0 := by omega
              have hneg : i < 0 := by omega
              obtain rfl : y = (nx : Int) := HFd.out.fin (by rw [HPp.out]; exact HN2.out) hn1 (fun v' hv' => by rw [HPp.out]; exact HN3.out v' hv')
              clear hi
              have hzq : wo.heap.size ≤ (wp.drewN q3).heap.size := hzp
              have HOq : Hid (Own (wp.drewN q3) wo.heap.size (.slice (some ⟨d, od, none⟩) (m + 1) c') (M.hvL (M.ent R) L t k f (m + 1))) := HO.out.below (b_draws _ _)
              have HBq : Hid (Below wo.heap.size wo (wp.drewN q3)) := below_drewN HBp.out _
              have cn1q : (wp.drewN q3).cell? ⟨dn, odn + nx, none⟩ = some (.slice (some ⟨rdn, rdno, none⟩) L cn4) := cn1
              have cn2q : (wp.drewN q3).cell? ⟨rdn, rdno + xk, none⟩ = some (.int .i64 an) := cn2
              clear cn1 cn2
              generalize wp.drewN q3 = wq at HOq HBq hzq cn1q cn2q
              go_wp2_with (at_builtin; refine append1 _ rfl (.tmp 151) (.tmp 153) rfl wo.heap.size _ _ _ (m + 1) HLn.out rfl HOq.out rfl (by rw [HLn.out]; omega) hzq ?_)
              intro b7 c7 w7 hO7 hb7 _
              rw [HNX.out] at hO7
              have HO7 := Lib.hid hO7
              have HB7 := Lib.hid (HBq.out.trans hb7)
              clear hO7 hb7
              go_wp2
              go_roundw
              case rel => exact ⟨m + 1, _, _, _, _, by omega, by omega, rfl, rfl, rfl, HNE, HO7.out, HB7.out⟩
              case measure => simp; omega
        · obtain rfl : m = k := by omega
          have hneg : u < 0 := by omega
          clear hu
          go_wp2
          go_ret2
          exact ⟨_, _, _, rfl, HO.out.mono (Nat.le_trans hz1 hzo), (HB1.out.trans ((HB.out.trans (HBp.out.mono hzo)).mono hz1))⟩

set_option maxRecDepth 100000 in
set_option maxHeartbeats 1000000 in
theorem sHeaviestPath (a : Option Addr) (n cap : Nat) (R : List (List Int)) (f t : Int) (w : World) (h : Mat w a n R) :
    Calls Try.prog 36 #[.slice a n cap, .int .i64 f, .int .i64 t] w (VRes (M.heavyRes R f t) w) := by
  have HA := Lib.hid h
  have HR := Lib.hid h.1
  by_cases hs : M.sqB R = true
  · have HS := Lib.hid hs
    have HQ := Lib.hid (sq_of h hs)
    have HSm := Lib.hid (sq_of h hs).2.2.1
    obtain ⟨-, -, -, n1, n2⟩ := sq_of h hs
    by_cases hnf : M.inN n f = true
    · have HNf := Lib.hid hnf
      obtain ⟨f', rfl⟩ : ∃ f' : Nat, f = (f' : Int) := by
        have := M.inN_t hnf
        exact ⟨f.toNat, by omega⟩
      have hf : f' < n := by have := M.inN_t hnf; omega
      by_cases hnt : M.inN n t = true
      · have HNt := Lib.hid hnt
        obtain ⟨t', rfl⟩ : ∃ t' : Nat, t = (t' : Int) := by
          have := M.inN_t hnt
          exact ⟨t.toNat, by omega⟩
        have ht : t' < n := by have := M.inN_t hnt; omega
        have hn : (M.inN n (f' : Int) && M.inN n (t' : Int)) = true := by rw [hnf, hnt]; rfl
        have hfi : (f' : Int) < (n : Int) := by omega
        have hti : (t' : Int) < (n : Int) := by omega
        by_cases hp : M.noPos (M.ent R) n = true
        · by_cases hst : M.starF (M.ent R) n t' f' = -1000000000000000
          · have HE : Hid (M.heavyRes R f' t' = ([], 4)) := by
              show _ = _; unfold M.heavyRes; rw [hs, HR.out, hn, hp]
              rw [if_pos (by rfl), if_pos (by rfl), if_pos (by rfl), if_pos (by rw [Int.toNat_natCast, Int.toNat_natCast]; exact hst)]
            have HC : ∀ w1, Below w.heap.size w w1 → Calls Try.prog 56 #[.slice a n cap] w1 fun e w' => ∃ b c, e = .returned (.tuple #[.slice b n c, .bool true]) ∧ OwnM w' w1.heap.size (.slice b n c) (M.starM R n) ∧ Below w1.heap.size w1 w' := by
              intro w1 hb
              have := sStar a n cap R w1 (HQ.out.below hb)
              rw [hp, M.bm_star n2 HSm.out hp] at this
              exact this
            have HST := Lib.hid hst
            clear h hs hn hp hst hnf hnt
            go_enter Try.func36, Try.ntmps36
            go_wp2_with (go_at_call 55; refine (sSquare_b _ _ _ R _ true HS.out HA.out).mono ?_; rintro e w' ⟨rfl, q, rfl⟩)
            refine (sNode_b _ n _ _ _ true HNf.out (by omega)).mono ?_
            rintro e w' ⟨rfl, rfl⟩
            go_wp2_with fail
            refine (sNode_b _ n _ _ _ true HNt.out (by omega)).mono ?_
            rintro e w' ⟨rfl, rfl⟩
            go_wp2_with fail
            refine (HC _ (b_draws _ _)).mono ?_
            rintro e w1 ⟨a2, cap2, rfl, hO, hb⟩
            have HB1 := Lib.hid (bnext (b_draws w q) hb)
            obtain ⟨g, sq, L, c, x, rfl, -, -, hL, hx, c1, c2, -, -⟩ := hO.at t' f' ht (by rw [show M.starM R n = M.mk n n (M.starF (M.ent R) n) from rfl, M.mk_rowlen _ _ _ _ ht]; exact hf)
            have hx2 : x = -1000000000000000 := by
              rw [hx, ← HST.out]
              exact M.mk_ent _ _ _ _ _ ht hf
            subst hx2
            rw [show M.starM R n = M.mk n n (M.starF (M.ent R) n) from rfl, M.mk_rowlen _ _ _ _ ht] at hL
            subst hL
            clear hO hb HC hx
            go_wp2
            go_ret2
            exact VRes.nil HE.out HB1.out
          · have HE : M.heavyRes R f' t' = (M.hvL (M.ent R) n t' (M.arcs (M.ent R) n f' t') f' (M.arcs (M.ent R) n f' t' + 1), 0) := by
              unfold M.heavyRes; rw [hs, HR.out, hn, hp]
              rw [if_pos (by rfl), if_pos (by rfl), if_pos (by rfl), if_neg (by rw [Int.toNat_natCast, Int.toNat_natCast]; exact hst)]
              rw [Int.toNat_natCast, Int.toNat_natCast]
            rw [HE]
            exact sHeaviest_ok _ _ _ _ _ _ _ h hs hf ht hp hst
        · simp only [Bool.not_eq_true] at hp
          have HE : Hid (M.heavyRes R f' t' = ([], 5)) := by
            show _ = _; unfold M.heavyRes; rw [hs, HR.out, hn, hp]; rfl
          have HC : ∀ w1, Below w.heap.size w w1 → Calls Try.prog 56 #[.slice a n cap] w1 fun e w' => ∃ b c, e = .returned (.tuple #[.slice b n c, .bool false]) ∧ OwnM w' w1.heap.size (.slice b n c) (M.bmM R n n) ∧ Below w1.heap.size w1 w' := by
            intro w1 hb
            have := sStar a n cap R w1 (HQ.out.below hb)
            rw [hp] at this
            exact this
          clear h hs hn hp hnf hnt
          go_enter Try.func36, Try.ntmps36
          go_wp2_with (go_at_call 55; refine (sSquare_b _ _ _ R _ true HS.out HA.out).mono ?_; rintro e w' ⟨rfl, q, rfl⟩)
          refine (sNode_b _ n _ _ _ true HNf.out (by omega)).mono ?_
          rintro e w' ⟨rfl, rfl⟩
          go_wp2_with fail
          refine (sNode_b _ n _ _ _ true HNt.out (by omega)).mono ?_
          rintro e w' ⟨rfl, rfl⟩
          go_wp2_with fail
          refine (HC _ (b_draws _ _)).mono ?_
          rintro e w1 ⟨a2, cap2, rfl, hO, hb⟩
          have HB1 := Lib.hid (bnext (b_draws w q) hb)
          clear hO hb HC
          go_wp2
          go_ret2
          exact VRes.nil HE.out HB1.out
      · simp only [Bool.not_eq_true] at hnt
        have HNt := Lib.hid hnt
        have HE : Hid (M.heavyRes R f' t = ([], 2)) := by
          show _ = _; unfold M.heavyRes; rw [hs, HR.out, hnf, hnt]; rfl
        clear h hs hnf hnt
        go_enter Try.func36, Try.ntmps36
        go_wp2_with (go_at_call 55; refine (sSquare_b _ _ _ R _ true HS.out HA.out).mono ?_; rintro e w' ⟨rfl, q, rfl⟩)
        refine (sNode_b _ n _ _ _ true HNf.out (by omega)).mono ?_
        rintro e w' ⟨rfl, rfl⟩
        go_wp2_with fail
        refine (sNode_b _ n _ _ _ false HNt.out (by omega)).mono ?_
        rintro e w' ⟨rfl, rfl⟩
        go_wp2
        go_ret2
        exact VRes.nil HE.out (b_draws _ _)
    · simp only [Bool.not_eq_true] at hnf
      have HNf := Lib.hid hnf
      have HE : Hid (M.heavyRes R f t = ([], 2)) := by
        show _ = _; unfold M.heavyRes; rw [hs, HR.out, hnf]; rfl
      clear h hs hnf
      go_enter Try.func36, Try.ntmps36
      go_wp2_with (go_at_call 55; refine (sSquare_b _ _ _ R _ true HS.out HA.out).mono ?_; rintro e w' ⟨rfl, q, rfl⟩)
      refine (sNode_b _ n _ _ _ false HNf.out (by omega)).mono ?_
      rintro e w' ⟨rfl, rfl⟩
      go_wp2
      go_ret2
      exact VRes.nil HE.out (b_draws _ _)
  · simp only [Bool.not_eq_true] at hs
    have HS := Lib.hid hs
    have HE : Hid (M.heavyRes R f t = ([], 1)) := by show _ = _; unfold M.heavyRes; rw [hs]; rfl
    clear h hs
    go_enter Try.func36, Try.ntmps36
    go_wp2_with (go_at_call 55; refine (sSquare_b _ _ _ R _ false HS.out HA.out).mono ?_; rintro e w' ⟨rfl, q, rfl⟩)
    go_ret2
    exact VRes.nil HE.out (b_draws _ _)
end Go.Proofs.Ytjljplolonpldab.V

namespace Go.Proofs.Ytjljplolonpldab.V
open Go.RowKit

set_option maxRecDepth 100000 in
set_option maxHeartbeats 1000000 in
theorem addMatrices (a : Option Addr) (n cap : Nat) (R : List (List Int)) (a' : Option Addr) (n' cap' : Nat) (R' : List (List Int)) (w : World) (h : Mat w a n R) (h' : Mat w a' n' R') :
    Calls Try.prog 46 #[.slice a n cap, .slice a' n' cap'] w (MRes (M.addRes R R') w) := by
  by_cases hR : M.isMat R = true
  · by_cases hR' : M.isMat R' = true
    · by_cases hl : n = n'
      · by_cases hw : M.wid R = M.wid R'
        · have e : M.addRes R R' = (M.addM R R', 0) := by
            unfold M.addRes; rw [hR, hR', if_pos (by rfl), if_pos ⟨by rw [h.1, h'.1, hl], hw⟩]
          rw [e]
          exact addMatrices_ok _ _ _ _ _ _ _ _ _ h h' hR hR' hl hw
        · have HE : Hid (M.addRes R R' = ([], 5)) := by
            show _ = _; unfold M.addRes; rw [hR, hR', if_pos (by rfl), if_neg (fun hh => hw hh.2)]
          subst hl
          have HA := Lib.hid h
          have HA' := Lib.hid h'
          have m1 := (M.isMat_t hR).1
          rw [h.1] at m1
          obtain ⟨b, off, ra, L, rc, rfl, hL, hc⟩ := h.first (by omega)
          obtain ⟨b', off', ra', L', rc', rfl, hL', hc'⟩ := h'.first (by omega)
          have hne : (L == L') = false := by rw [hL, hL']; simpa using hw
          have hne2 : (L != L') = true := by rw [hL, hL']; simpa using hw
          have HR := Lib.hid hR
          have HR' := Lib.hid hR'
          clear h h' hR hR' hw hL hL'
          go_enter Try.func46, Try.ntmps46
          go_wp2_with fail
          refine (isMatrix_b _ _ _ R _ true HR.out HA.out).mono ?_
          rintro e w' ⟨rfl, rfl⟩
          go_wp2_with fail
          refine (isMatrix_b _ _ _ R' _ true HR'.out HA'.out).mono ?_
          rintro e w' ⟨rfl, rfl⟩
          go_wp2_with fail
          go_quiet (fail)
          go_wp2
          go_ret2
          exact MRes.nil HE.out (b_draws _ _)
      · have HE : Hid (M.addRes R R' = ([], 5)) := by
          show _ = _; unfold M.addRes; rw [hR, hR', if_pos (by rfl), if_neg (fun hh => hl (by rw [← h.1, ← h'.1, hh.1]))]
        have HA := Lib.hid h
        have HA' := Lib.hid h'
        have HR := Lib.hid hR
        have HR' := Lib.hid hR'
        have hne : (n == n') = false := by simpa using hl
        have hne2 : (n != n') = true := by simpa using hl
        have hne3 : ((n : Int) != (n' : Int)) = true := by simp; omega
        clear h h' hR hR'
        go_enter Try.func46, Try.ntmps46
        go_wp2_with fail
        refine (isMatrix_b _ _ _ R _ true HR.out HA.out).mono ?_
        rintro e w' ⟨rfl, rfl⟩
        go_wp2_with fail
        refine (isMatrix_b _ _ _ R' _ true HR'.out HA'.out).mono ?_
        rintro e w' ⟨rfl, rfl⟩
        go_wp2_with fail
        go_quiet (fail)
        go_wp2
        go_ret2
        exact MRes.nil HE.out (b_draws _ _)
    · simp only [Bool.not_eq_true] at hR'
      have HE : Hid (M.addRes R R' = ([], 1)) := by
        show _ = _; unfold M.addRes; rw [hR, hR', if_neg (by simp)]
      have HA := Lib.hid h
      have HA' := Lib.hid h'
      have HR := Lib.hid hR
      have HR' := Lib.hid hR'
      clear h h' hR hR'
      go_enter Try.func46, Try.ntmps46
      go_wp2_with fail
      refine (isMatrix_b _ _ _ R _ true HR.out HA.out).mono ?_
      rintro e w' ⟨rfl, rfl⟩
      go_wp2_with fail
      refine (isMatrix_b _ _ _ R' _ false HR'.out HA'.out).mono ?_
      rintro e w' ⟨rfl, rfl⟩
      go_wp2
      go_ret2
      exact MRes.nil HE.out (Below.refl _ _)
  · simp only [Bool.not_eq_true] at hR
    have HE : Hid (M.addRes R R' = ([], 1)) := by
      show _ = _; unfold M.addRes; rw [hR, if_neg (by simp)]
    have HA := Lib.hid h
    have HR := Lib.hid hR
    clear h h' hR
    go_enter Try.func46, Try.ntmps46
    go_wp2_with fail
    refine (isMatrix_b _ _ _ R _ false HR.out HA.out).mono ?_
    rintro e w' ⟨rfl, rfl⟩
    go_wp2
    go_ret2
    exact MRes.nil HE.out (Below.refl _ _)
end Go.Proofs.Ytjljplolonpldab.V



namespace Go.Proofs.Ytjljplolonpldab.V
open Go.RowKit

set_option maxRecDepth 100000 in
set_option maxHeartbeats 400000 in
theorem likeInts (a : Option Addr) (n cap : Nat) (l : List Int) (a' : Option Addr) (n' cap' : Nat) (l' : List Int) (w : World) (h : Ints .i64 w a n l) (h' : Ints .i64 w a' n' l') (heq : l = l') :
    Calls Try.prog 40 #[.slice a n cap, .slice a' n' cap'] w fun e w' => e = .returned (.bool true) ∧ ∃ q, w' = w.drewN q := by
  subst heq
  obtain ⟨hl, hm, hr⟩ := h
  obtain ⟨hl', hm', hr'⟩ := h'
  obtain rfl : n = n' := by omega
  unfold maxLen at hm
  clear hm'
  have HL := Lib.hid hl
  clear hl hl'
  go_enter Try.func40, Try.ntmps40
  go_wp2
  go_loopw [5] (fun i wr => ∃ k : Nat, k ≤ n ∧ i = .int .i64 k ∧ ∃ q, wr = w.drewN q) (fun i _ => n - (intOf i).toNat)
  case atStart => exact ⟨0, Nat.zero_le _, rfl, 0, rfl⟩
  case round =>
    obtain ⟨k, hk, rfl, q, rfl⟩ := hrel
    by_cases hlt : k < n
    · rcases hr with h0 | ⟨b, off, rfl, hbl, hc⟩
      · omega
      rcases hr' with h0 | ⟨b', off', rfl, hbl', hc'⟩
      · omega
      have hck := hc k hlt
      have hck' := hc' k hlt
      obtain ⟨x, hx⟩ : ∃ x, x = l.getD k 0 := ⟨_, rfl⟩
      rw [← hx] at hck hck'
      clear hc hx hc'
      have hki : (k : Int) < (n : Int) := by omega
      go_wp2
      go_quiet (fail)
      go_wp2
      go_roundw
      case rel => exact ⟨k + 1, by omega, by go_num, _, rfl⟩
      case measure => simp [intOf]; omega
    · have hkn : k = n := by omega
      subst hkn
      clear hr hr'
      go_wp2
      go_ret
      exact ⟨rfl, q, rfl⟩

set_option maxRecDepth 100000 in
set_option maxHeartbeats 400000 in
theorem likeIntss (a : Option Addr) (n cap : Nat) (R : List (List Int)) (a' : Option Addr) (n' cap' : Nat) (R' : List (List Int)) (w : World) (h : Mat w a n R) (h' : Mat w a' n' R') (heq : R = R') :
    Calls Try.prog 44 #[.slice a n cap, .slice a' n' cap'] w fun e w' => e = .returned (.bool true) ∧ ∃ q, w' = w.drewN q := by
  subst heq
  have HM := Lib.hid h
  have HM' := Lib.hid h'
  obtain ⟨hl, hm, -⟩ := h
  obtain ⟨hl', -, -⟩ := h'
  obtain rfl : n = n' := by omega
  unfold maxLen at hm
  have HL := Lib.hid hl
  clear hl hl'
  go_enter Try.func44, Try.ntmps44
  go_wp2
  go_loopw [5] (fun i wr => ∃ k : Nat, k ≤ n ∧ i = .int .i64 k ∧ ∃ q, wr = w.drewN q) (fun i _ => n - (intOf i).toNat)
  case atStart => exact ⟨0, Nat.zero_le _, rfl, 0, rfl⟩
  case round =>
    obtain ⟨k, hk, rfl, q, rfl⟩ := hrel
    by_cases hlt : k < n
    · obtain ⟨b, off, ra, rc, L, l, rfl, hbl, hll, hc, hI⟩ := HM.out.at k hlt
      obtain ⟨b', off', ra', rc', L', l', rfl, hbl', hll', hc', hI'⟩ := HM'.out.at k hlt
      have HI := Lib.hid hI
      have HI' := Lib.hid hI'
      have HE := Lib.hid (hll.trans hll'.symm)
      clear hI hI' hll hll' HM HM'
      have hki : (k : Int) < (n : Int) := by omega
      go_wp2
      go_quiet ((go_at_call 40; exact q_more (likeInts _ _ _ l _ _ _ l' _ HI.out HI'.out HE.out)))
      go_wp2
      go_roundw
      case rel => exact ⟨k + 1, by omega, by go_num, _, rfl⟩
      case measure => simp [intOf]; omega
    · have hkn : k = n := by omega
      subst hkn
      go_wp2
      go_ret
      exact ⟨rfl, q, rfl⟩

/-- The same, said for the laws. -/
theorem likeM (a : Option Addr) (n cap : Nat) (R : List (List Int)) (a' : Option Addr) (n' cap' : Nat) (w : World) (h : Mat w a n R) (h' : Mat w a' n' R) :
    Calls Try.prog 44 #[.slice a n cap, .slice a' n' cap'] w fun e w' => e = .returned (.bool true) ∧ Below w.heap.size w w' := by
  refine (likeIntss _ _ _ _ _ _ _ _ _ h h' rfl).mono ?_
  rintro e w' ⟨rfl, q, rfl⟩
  exact ⟨rfl, b_draws _ _⟩
theorem likeV (a : Option Addr) (n cap : Nat) (l : List Int) (a' : Option Addr) (n' cap' : Nat) (w : World) (h : Ints .i64 w a n l) (h' : Ints .i64 w a' n' l) :
    Calls Try.prog 40 #[.slice a n cap, .slice a' n' cap'] w fun e w' => e = .returned (.bool true) ∧ Below w.heap.size w w' := by
  refine (likeInts _ _ _ _ _ _ _ _ _ h h' rfl).mono ?_
  rintro e w' ⟨rfl, q, rfl⟩
  exact ⟨rfl, b_draws _ _⟩
set_option maxRecDepth 100000 in
set_option maxHeartbeats 400000 in
theorem big (a : Option Addr) (n cap : Nat) (w : World) (h : n ≤ maxLen) :
    Calls Try.prog 33 #[.slice a n cap] w fun e w' => e = .returned (.bool (decide (4096 < n))) ∧ w = w' := by
  unfold maxLen at h
  go_enter Try.func33, Try.ntmps33
  go_wp2
  go_ret
  exact ⟨retB (decide_eq_decide.2 (by omega)), rfl⟩
end Go.Proofs.Ytjljplolonpldab.V

namespace Go.Proofs.Ytjljplolonpldab.V
open Go.RowKit

set_option maxRecDepth 100000 in
set_option maxHeartbeats 400000 in
theorem eqIntss (a : Option Addr) (n cap : Nat) (R : List (List Int)) (a' : Option Addr) (n' cap' : Nat) (R' : List (List Int)) (w : World) (h : Mat w a n R) (h' : Mat w a' n' R') (heq : R = R') :
    Calls Try.prog 17 #[.slice a n cap, .slice a' n' cap'] w fun e w' => e = .returned (.bool true) ∧ ∃ q, w' = w.drewN q := by
  subst heq
  have HM := Lib.hid h
  have HM' := Lib.hid h'
  obtain ⟨hl, hm, -⟩ := h
  obtain ⟨hl', -, -⟩ := h'
  obtain rfl : n = n' := by omega
  unfold maxLen at hm
  have HL := Lib.hid hl
  clear hl hl'
  go_enter Try.func17, Try.ntmps17
  go_wp2
  go_loopw [5] (fun i wr => ∃ k : Nat, k ≤ n ∧ i = .int .i64 k ∧ ∃ q, wr = w.drewN q) (fun i _ => n - (intOf i).toNat)
  case atStart => exact ⟨0, Nat.zero_le _, rfl, 0, rfl⟩
  case round =>
    obtain ⟨k, hk, rfl, q, rfl⟩ := hrel
    by_cases hlt : k < n
    · obtain ⟨b, off, ra, rc, L, l, rfl, hbl, hll, hc, hI⟩ := HM.out.at k hlt
      obtain ⟨b', off', ra', rc', L', l', rfl, hbl', hll', hc', hI'⟩ := HM'.out.at k hlt
      have HI := Lib.hid hI
      have HI' := Lib.hid hI'
      have HE := Lib.hid (hll.trans hll'.symm)
      clear hI hI' hll hll' HM HM'
      have hki : (k : Int) < (n : Int) := by omega
      go_wp2
      go_quiet ((go_at_call 25; exact q_more (eqInts _ _ _ l _ _ _ l' _ HI.out HI'.out HE.out)))
      go_wp2
      go_roundw
      case rel => exact ⟨k + 1, by omega, by go_num, _, rfl⟩
      case measure => simp [intOf]; omega
    · have hkn : k = n := by omega
      subst hkn
      go_wp2
      go_ret
      exact ⟨rfl, q, rfl⟩

set_option maxRecDepth 100000 in
set_option maxHeartbeats 400000 in
theorem copyIntss (a : Option Addr) (n cap : Nat) (R : List (List Int)) (w : World) (h : Mat w a n R) (hs : n ≤ 1048576) (hr : M.pre R R.length ≤ 1048576) :
    Calls Try.prog 15 #[.slice a n cap] w fun e w' => e = .returned (.slice (some ⟨w.heap.size, 0, none⟩) n n) ∧ OwnM w' w.heap.size (.slice (some ⟨w.heap.size, 0, none⟩) n n) R ∧ Below w.heap.size w w' := by
  have HM := Lib.hid h
  obtain ⟨hl, hm, -⟩ := h
  have hm2 := hm
  unfold maxLen at hm
  have HL := Lib.hid hl
  have HR := Lib.hid hr
  clear hl hr
  have hmk := run_make_row' (P := Try.prog) 22 29 (.slice none 0 0) 24 Try.underlying22 infoS64 rfl .i64 .i64 n (by omega) (by omega)
  go_enter Try.func15, Try.ntmps15
  go_wp2
  clear hmk
  go_loopw [4] (fun i wr => ∃ k : Nat, k ≤ n ∧ i = .int .i64 k ∧ OwnM wr w.heap.size (.slice (some ⟨w.heap.size, 0, none⟩) n n) ((List.range n).map fun j => if j < k then R.getD j [] else []) ∧ Below w.heap.size w wr) (fun i _ => n - (intOf i).toNat)
  case atStart =>
    refine ⟨0, Nat.zero_le _, rfl, ?_, b_alloc _ _⟩
    refine (congrArg (OwnM _ _ _) ?_).mp (ownM_made w _ n (Nat.le_refl _) hm2)
    apply List.ext_getElem
    · simp
    · intro i h1 h2; simp
  case round =>
    obtain ⟨k, hk, rfl, hO, hb⟩ := hrel
    have HO := Lib.hid hO
    have HB := Lib.hid hb
    clear hO hb
    by_cases hlt : k < n
    · obtain ⟨b, off, ra, rc, L, l, rfl, hbl, hll, hc, hI⟩ := (HM.out.below HB.out).at k hlt
      have HI := Lib.hid hI
      have HLL := Lib.hid hll
      have hLs : L ≤ 1048576 := by
        have e1 := M.len_le_pre R k (by have := HL.out; omega)
        have e2 := HR.out
        have e3 := HI.out.1
        rw [HLL.out] at e3
        omega
      clear hI hll
      go_wp2_with fail
      refine (copyInts _ _ _ l _ HI.out hLs).mono ?_
      rintro e w1 ⟨rfl, ho1, hb1⟩
      have hg := HO.out.lt rfl
      have hst : ∃ v, w1.cell? ⟨w.heap.size, k, none⟩ = some v := by
        obtain ⟨v, hv⟩ := HO.out.outer k hlt
        exact ⟨v, by rw [hb1.cell (p := ⟨w.heap.size, k, none⟩) hg]; exact hv⟩
      obtain ⟨v, hst⟩ := hst
      have hfz : w1.frozen? ⟨w.heap.size, k, none⟩ = false := by rw [hb1.frozen (p := ⟨w.heap.size, k, none⟩) hg]; exact HO.out.outerFz k
      have HN := Lib.hid (HO.out.setRow hb1 HB.out.size ho1 k hlt)
      have HB1 := Lib.hid (bnext HB.out hb1)
      clear ho1 hb1 hg
      go_wp2
      go_roundw
      case rel =>
        refine ⟨k + 1, by omega, by go_num, ?_, HB1.out.setCell (Nat.le_refl _) _⟩
        refine (congrArg (OwnM _ _ _) ?_).mp HN.out
        apply List.ext_getElem
        · simp
        · intro j h1 h2
          simp only [List.length_map, List.length_range] at h2
          rw [List.getElem_set]
          simp only [List.getElem_map, List.getElem_range]
          by_cases e : k = j
          · subst e; rw [if_pos rfl, if_pos (by omega), HLL.out]
          · rw [if_neg e]
            by_cases e2 : j < k
            · rw [if_pos e2, if_pos (by omega)]
            · rw [if_neg e2, if_neg (by omega)]
      case measure => simp [intOf]; omega
    · have hkn : k = n := by omega
      subst hkn
      go_wp2
      go_ret
      refine ⟨rfl, ?_, HB.out⟩
      refine (congrArg (OwnM _ _ _) ?_).mp HO.out
      have hl := HL.out
      apply List.ext_getElem
      · simp [hl]
      · intro i h1 h2
        simp [show i < k by omega, h2]

/-- The same, said for the exact laws. -/
theorem eqM (a : Option Addr) (n cap : Nat) (R : List (List Int)) (a' : Option Addr) (n' cap' : Nat) (w : World) (h : Mat w a n R) (h' : Mat w a' n' R) :
    Calls Try.prog 17 #[.slice a n cap, .slice a' n' cap'] w fun e w' => e = .returned (.bool true) ∧ Below w.heap.size w w' := by
  refine (eqIntss _ _ _ _ _ _ _ _ _ h h' rfl).mono ?_
  rintro e w' ⟨rfl, q, rfl⟩
  exact ⟨rfl, b_draws _ _⟩
theorem eqV (a : Option Addr) (n cap : Nat) (l : List Int) (a' : Option Addr) (n' cap' : Nat) (w : World) (h : Ints .i64 w a n l) (h' : Ints .i64 w a' n' l) :
    Calls Try.prog 25 #[.slice a n cap, .slice a' n' cap'] w fun e w' => e = .returned (.bool true) ∧ Below w.heap.size w w' := by
  refine (eqInts _ _ _ _ _ _ _ _ _ h h' rfl).mono ?_
  rintro e w' ⟨rfl, q, rfl⟩
  exact ⟨rfl, b_draws _ _⟩
end Go.Proofs.Ytjljplolonpldab.V

namespace Go.Proofs.Ytjljplolonpldab
namespace M
section
variable {R : List (List Int)} {n : Nat} (hn : n ≤ 10) (hA : ∀ i j, i < n → j < n → Sm 1000001000000 (ent R i j))
include hn hA
/-- No path is heavier than the star says. -/
theorem along_star (hp : noPos (ent R) n = true) {l : List Int} (h1 : 1 ≤ l.length) (h2 : l.length ≤ 100) (hv : nodesB n l = true) : alongW R l ≤ starF (ent R) n (vx l (l.length - 1)) (vx l 0) := by
  have hd := o_diag hn hA hp
  have hx : ∀ u, u ≤ l.length - 1 → vx l u < n := fun u hu => by
    have := nodesB_at hv (k := u) (by omega)
    unfold vx; omega
  have hs : ∀ u, u < l.length - 1 → Sm 1000001000000 (ent R (vx l (u + 1)) (vx l u)) := fun u hu => hA _ _ (hx _ (by omega)) (hx _ (by omega))
  have e1 : o (starF (ent R) n (vx l (l.length - 1)) (vx l 0)) = obm (fun i j => o (ent R i j)) n n (vx l (l.length - 1)) (vx l 0) := by
    unfold starF
    rw [← clo_star hn hA hp (hx _ (Nat.le_refl _)) (hx 0 (Nat.zero_le _)), o_cbm hA n (by omega) _ _ (hx _ (Nat.le_refl _)) (hx 0 (Nat.zero_le _))]
  have e2 := owk_star hd (vx l) (l.length - 1) hx
  rw [← e1, ← o_wkc (by omega) hs] at e2
  exact (o_le (L := 100000000000000) (sm_up (wkc_sm hs) (by omega)) (sm_up (star_sm hn hA hp (hx _ (Nat.le_refl _)) (hx 0 (Nat.zero_le _))) (by omega)) (by omega)).1 e2
end
section
variable {R : List (List Int)} {n : Nat} (hA : ∀ i j, i < n → j < n → Sm 1000001000000 (ent R i j))
include hA
theorem hv_wkc {t s f : Nat} (hs : s ≤ 10) (ht : t < n) (hf : f < n) (h : cpw (ent R) n s t f ≠ -1000000000000000) (k : Nat) (hk : k ≤ s) :
    wkc (ent R) (xs (ent R) n t s f) k = cpw (ent R) n s t f - cpw (ent R) n (s - k) t (xs (ent R) n t s f k) := by
  induction k with
  | zero => show (0 : Int) = cpw (ent R) n s t f - cpw (ent R) n s t f; omega
  | succ k ih =>
    obtain ⟨h1, h2⟩ := xs_inv hA hs ht hf h k (by omega)
    obtain ⟨h3, h4⟩ := xs_inv hA hs ht hf h (k + 1) hk
    have h5 := xs_need hA hs ht hf h k (by omega)
    have b0 := cpw_sm hA s t f ht hf
    have b1 := cpw_sm hA (s - k) t _ ht h1
    have b2 := cpw_sm hA (s - (k + 1)) t _ ht h3
    have b3 := hA _ _ h3 h1
    have hs' : (1000001000000 : Int) * (s : Int) ≤ 10000010000000 := by omega
    have hk1 : (1000001000000 : Int) * ((s - k : Nat) : Int) ≤ 10000010000000 := by omega
    have hk2 : (1000001000000 : Int) * ((s - (k + 1) : Nat) : Int) ≤ 10000010000000 := by omega
    show times (wkc (ent R) (xs (ent R) n t s f) k) (ent R (xs (ent R) n t s f (k + 1)) (xs (ent R) n t s f k)) = _
    rw [ih (by omega), h5]
    rw [h5] at b2 h4
    unfold Sm at b0 b1 b2 b3
    unfold times
    rw [if_neg (by omega)]
    omega
theorem hv_along {t s f : Nat} (hs : s ≤ 10) (ht : t < n) (hf : f < n) (h : cpw (ent R) n s t f ≠ -1000000000000000) :
    alongW R (hvL (ent R) n t s f (s + 1)) = cpw (ent R) n s t f := by
  have e : wkc (ent R) (vx (hvL (ent R) n t s f (s + 1))) s = wkc (ent R) (xs (ent R) n t s f) s := wkc_congr fun u hu => by
    unfold vx; rw [hvL_at _ _ _ _ _ _ _ (by omega)]; simp
  unfold alongW
  rw [hvL_len, show s + 1 - 1 = s by omega, e, hv_wkc hA hs ht hf h s (Nat.le_refl _), Nat.sub_self, xs_end hA hs ht hf h]
  show _ - unit t t = _
  unfold unit
  rw [if_pos rfl]; omega
theorem hv_nodes {t s f : Nat} (hs : s ≤ 10) (ht : t < n) (hf : f < n) (h : cpw (ent R) n s t f ≠ -1000000000000000) : nodesB n (hvL (ent R) n t s f (s + 1)) = true := by
  unfold nodesB hvL
  rw [List.all_map, List.all_eq_true]
  intro i hi
  have := (xs_inv hA hs ht hf h i (by have := List.mem_range.1 hi; omega)).1
  simp [inN]; omega
end
/-- What an answer of HeaviestPath says. -/
theorem heavy_t {R : List (List Int)} {f t : Int} (h : (heavyRes R f t).2 = 0) : sqB R = true ∧ inN R.length f = true ∧ inN R.length t = true ∧ noPos (ent R) R.length = true ∧ starF (ent R) R.length t.toNat f.toNat ≠ -1000000000000000 ∧ heavyRes R f t = (hvL (ent R) R.length t.toNat (arcs (ent R) R.length f.toNat t.toNat) f.toNat (arcs (ent R) R.length f.toNat t.toNat + 1), 0) := by
  unfold heavyRes at h ⊢
  by_cases h1 : sqB R = true
  · rw [if_pos h1] at h ⊢
    by_cases h2 : (inN R.length f && inN R.length t) = true
    · rw [if_pos h2] at h ⊢
      rw [Bool.and_eq_true] at h2
      by_cases h3 : noPos (ent R) R.length = true
      · rw [if_pos h3] at h ⊢
        by_cases h4 : starF (ent R) R.length t.toNat f.toNat = -1000000000000000
        · rw [if_pos h4] at h; simp at h
        · rw [if_neg h4]; exact ⟨h1, h2.1, h2.2, h3, h4, rfl⟩
      · rw [if_neg h3] at h; simp at h
    · rw [if_neg h2] at h; simp at h
  · rw [if_neg h1] at h; simp at h
theorem path_t {R : List (List Int)} {l : List Int} (h : (pathRes R l).2 = 0) : sqB R = true ∧ 1 ≤ l.length ∧ l.length ≤ 100 ∧ nodesB R.length l = true ∧ pathRes R l = (alongW R l, 0) := by
  unfold pathRes at h ⊢
  by_cases h1 : sqB R = true
  · rw [if_pos h1] at h ⊢
    by_cases h2 : 1 ≤ l.length ∧ l.length ≤ 100 ∧ nodesB R.length l = true
    · rw [if_pos h2] at h ⊢
      by_cases h3 : alongW R l = -1000000000000000
      · rw [if_pos h3] at h; simp at h
      · rw [if_neg h3] at h ⊢
        unfold chk at h ⊢
        by_cases h4 : isVal (alongW R l) = true
        · rw [if_pos h4]; exact ⟨h1, h2.1, h2.2.1, h2.2.2, rfl⟩
        · rw [if_neg h4] at h; simp at h
    · rw [if_neg h2] at h; simp at h
  · rw [if_neg h1] at h; simp at h
theorem star_t {R : List (List Int)} (h : (starRes R).2 = 0) : sqB R = true ∧ noPos (ent R) R.length = true ∧ isMat (starM R R.length) = true ∧ starRes R = (starM R R.length, 0) := by
  unfold starRes at h ⊢
  by_cases h1 : sqB R = true
  · rw [if_pos h1] at h ⊢
    by_cases h3 : noPos (ent R) R.length = true
    · rw [if_pos h3] at h ⊢
      by_cases h4 : isMat (starM R R.length) = true
      · rw [if_pos h4]; exact ⟨h1, h3, h4, rfl⟩
      · rw [if_neg h4] at h; simp at h
    · rw [if_neg h3] at h; simp at h
  · rw [if_neg h1] at h; simp at h
theorem star_l {R : List (List Int)} (h1 : sqB R = true) (h3 : noPos (ent R) R.length = true) (h : (starRes R).2 ≠ 0) : starRes R = ([], 3) := by
  unfold starRes at h ⊢
  rw [if_pos h1, if_pos h3] at h ⊢
  by_cases h4 : isMat (starM R R.length) = true
  · rw [if_pos h4] at h; simp at h
  · rw [if_neg h4]
theorem starM_len (R : List (List Int)) (n : Nat) : (starM R n).length = n := mk_length _ _ _
theorem starM_wid (R : List (List Int)) {n : Nat} (h : 0 < n) : wid (starM R n) = n := mk_wid _ _ _ h
theorem starM_ent (R : List (List Int)) {n i j : Nat} (hi : i < n) (hj : j < n) : ent (starM R n) i j = starF (ent R) n i j := ent_mk _ _ _ _ _ hi hj
theorem starM_row (R : List (List Int)) {n i : Nat} (hi : i < n) : ((starM R n).getD i []).length = n := mk_rowlen _ _ _ _ hi
theorem isMat_ent {R : List (List Int)} (h : isMat R = true) {i j : Nat} (hi : i < R.length) (hj : j < wid R) : isVal (ent R i j) = true := (isMat_t h).2.2.2.2.2 i hi j hj
end M
end Go.Proofs.Ytjljplolonpldab

namespace Go.Proofs.Ytjljplolonpldab.V
open Go.RowKit

set_option maxRecDepth 100000 in
set_option maxHeartbeats 400000 in
theorem toRatio (a b : Int) (w : World) :
    Calls Try.prog 29 #[.agg #[.int .i64 a, .int .i64 b]] w fun e w' => e = .returned (.agg #[.int .i64 a, .int .i64 b]) ∧ Below w.heap.size w w' := by
  go_enter Try.func29, Try.ntmps29
  go_wp2
  exact bodyPost_ret (v := .agg #[.int .i64 a, .int .i64 b]) (by simp [results, Try.results29, go_sem]) rfl ⟨rfl, (b_alloc2 _ _ _).alloc (by simp; omega) _⟩

set_option maxRecDepth 100000 in
set_option maxHeartbeats 400000 in
theorem eqRatio (a b : Int) (w : World) :
    Calls Try.prog 53 #[.agg #[.int .i64 a, .int .i64 b], .agg #[.int .i64 a, .int .i64 b]] w fun e w' => e = .returned (.bool true) ∧ Below w.heap.size w w' := by
  go_enter Try.func53, Try.ntmps53
  go_wp2
  go_ret
  exact ⟨rfl, b_alloc2 _ _ _⟩
end Go.Proofs.Ytjljplolonpldab.V
