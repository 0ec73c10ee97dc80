/- Texts laid together: Hv3, Hv4, D3c. -/
import Derived.Test.YtkilnneepnbckaaRows
import Derived.Test.YtkilnneepnbckaaQd1
import Derived.Test.YtkilnneepnbckaaQd13
import Derived.Test.YtkilnneepnbckaaQd2
import Derived.Test.YtkilnneepnbckaaQd15
import Derived.WalkKit
import Derived.ProofKit
import Derived.WalkSmall
import Derived.Lib.Hide
import Derived.Deep.OwnRows
import Derived.Maps.AppendAt
import Derived.Test.YtkilnneepnbckaaQd7
import Derived.Deep.RegionHeld3
import Derived.Deep.RegionWith
import Derived.Test.YtkilnneepnbckaaQd12
set_option linter.unusedSimpArgs false
set_option linter.unusedVariables false
set_option linter.unusedSectionVars false
namespace Go.Proofs.Ytkilnneepnbckaa.V
open Go.RowKit

/-- The matrices P, n rows each, in a list of its own; each was made at a world of its own and has stayed since. -/
def Pws (w : World) (B : Nat) (v : Value) (m n : Nat) (P : Nat → List (List Int)) : Prop :=
  ∃ V : List Value, V.length = m ∧ w.ownsRow B 24 1 v m V ∧
    ∀ i, i < m → ∃ (wi : World) (lo : Nat) (b : Option Addr) (c : Nat), V.getD i (.slice none 0 0) = .slice b n c ∧ OwnM wi lo (.slice b n c) (P i) ∧ wi.heap.size ≤ w.heap.size ∧ Same lo wi.heap.size wi w ∧ ∀ k, v.ownBlock = some k → ¬(lo ≤ k ∧ k < wi.heap.size)

theorem OwnM.same {wi w : World} {lo : Nat} {v : Value} {R : List (List Int)} (h : OwnM wi lo v R) (hs : Same lo wi.heap.size wi w) : OwnM w lo v R :=
  h.keep hs
theorem Pws.below {w w' : World} {B : Nat} {v : Value} {m n : Nat} {P : Nat → List (List Int)} (h : Pws w B v m n P) (hb : Below w.heap.size w w') : Pws w' B v m n P := by
  obtain ⟨V, h1, h2, h3⟩ := h
  refine ⟨V, h1, ownsRow_keep h2 (fun k hv => hb.block k (own_lt h2 hv).2), fun i hi => ?_⟩
  obtain ⟨wi, lo, b, c, e, ho, hz, hs, hk⟩ := h3 i hi
  exact ⟨wi, lo, b, c, e, ho, Nat.le_trans hz hb.size, hs.below hb hz, hk⟩
/-- One of the matrices. -/
theorem Pws.at {w : World} {B : Nat} {a : Option Addr} {m n cap : Nat} {P : Nat → List (List Int)} (h : Pws w B (.slice a m cap) m n P) (i : Nat) (hi : i < m) :
    ∃ g b c, a = some ⟨g, 0, none⟩ ∧ w.cell? ⟨g, i, none⟩ = some (.slice b n c) ∧ Mat w b n (P i) := by
  obtain ⟨V, h1, h2, h3⟩ := h
  obtain ⟨a', c', hv, hc, hm, hg⟩ := own_form h2
  injection hv with e1 e2 e3
  subst e1 e3
  obtain ⟨g, rfl, hB, hlt⟩ := hg (by omega)
  obtain ⟨wi, lo, b, c, e, ho, hz, hs, hk⟩ := h3 i hi
  refine ⟨g, b, c, rfl, ?_, (ho.same hs).mat⟩
  rw [World.ownsRow.cellAt h2 i (by omega), ← e]
  simp [show i < V.length by omega]
theorem Pws.caps {w : World} {B : Nat} {a : Option Addr} {m n cap : Nat} {P : Nat → List (List Int)} (h : Pws w B (.slice a m cap) m n P) : m ≤ cap ∧ cap ≤ maxLen := by
  obtain ⟨V, h1, h2, _⟩ := h
  obtain ⟨a', c', hv, k1, k2, _⟩ := own_form h2
  injection hv with e1 e2 e3
  subst e3
  exact ⟨k1, k2⟩
theorem pws_lit1 (w : World) (B n : Nat) (hB : B ≤ w.heap.size) {b : Option Addr} {c : Nat} {M : List (List Int)} (ho : OwnM w B (.slice b n c) M) (P : Nat → List (List Int)) (hP : P 0 = M) :
    Pws (w.alloc (.cells #[.slice b n c] 24)) B (.slice (some ⟨w.heap.size, 0, none⟩) 1 1) 1 n P := by
  refine ⟨[.slice b n c], rfl, World.ownsRow_lit w #[.slice b n c] 1 hB (by decide) rfl, fun i hi => ?_⟩
  obtain rfl : i = 0 := by omega
  refine ⟨w, B, b, c, rfl, by rw [hP]; exact ho, (b_alloc w _).size, (Same.refl B w.heap.size w).below (b_alloc w _) (Nat.le_refl _), fun k hk => ?_⟩
  simp only [Value.ownBlock, Option.some.injEq] at hk
  omega
theorem infoM64 : (Try.prog.info? 24).map (fun i => (i.zero, i.size, i.bytes)) = some (some (.slice none 0 0), 1, 24) := by kernel_rfl

theorem appendMat (w0 w : World) {ops : Array Oper} {rest : List Oper} {o : Oper} {a : Act} {Q : Exit → Act → World → Prop} (hgd : o.guard = none) (s x : Operand)
    (ho : o.op = .call { callee := .builtin .append, args := #[s, x], argTypes := #[69, 69] }) (B : Nat) (v : Value) (b : Option Addr) (c m n : Nat) (P : Nat → List (List Int)) (M : List (List Int)) (hs : a.eval s = v) (hown : Pws w0 B v m n P) (hb : Below w0.heap.size w0 w) (hro : OwnM w w0.heap.size (.slice b n c) M) (hPm : P m = M)
    (hx : a.eval x = .slice (some ⟨w.heap.size, 0, none⟩) 1 1) (hlen : m ≤ 2000000) (hB : B ≤ w0.heap.size)
    (h : ∀ b' c' w', Pws w' B (.slice b' (m + 1) c') (m + 1) n P → Below B w w' → wpList Try.prog ops Q rest (a.put o.dst (.slice b' (m + 1) c')) w') :
    wpList Try.prog ops Q (o :: rest) a (w.alloc (.cells #[.slice b n c] 24)) := by
  obtain ⟨i0, hi, hz0, hz1, hz2⟩ := info_parts infoM64
  have hsz := hb.size
  obtain ⟨V, h1, h2, h3⟩ := hown
  have hwV : w.ownsRow B 24 1 v m V := ownsRow_keep h2 (fun k hv => hb.block k (own_lt h2 hv).2)
  have hown2 : (w.alloc (.cells #[.slice b n c] 24)).ownsRow B 24 1 v m V := World.ownsRow.alloc hwV _
  refine wpList_append_own_at (w := w.alloc (.cells #[.slice b n c] 24)) hgd s x 69 ho B 24 i0 (.slice none 0 0) 1 24 Try.underlying69 hi hz0 hz1 hz2 rfl (by decide) v _ _ hs hown2 ⟨w.heap.size, 0, none⟩ 1 1 [.slice b n c] hx rfl (cell_one_new _ _ _) ?c2 ?c3 ?c4 ?c5 ?_
  case c2 => intro u hu; simp at hu; subst hu; rfl
  case c3 => unfold maxLen; omega
  case c4 => omega
  case c5 => simp; omega
  · intro v' w' hownV' hgrow hz hvb
    have hbel : Below B w w' := ((Below.refl B w).alloc (Nat.le_trans hB hsz) _).grown hgrow (by simp; omega) (fun k hk => (own_lt h2 hk).1)
    obtain ⟨g1, g2, g3, g4, g5⟩ := hgrow
    have hg : ∀ k, k < w.heap.size → v.ownBlock ≠ some k → w'.heap[k]? = w.heap[k]? := fun k hk hne => by
      rw [g5 k (by simp; omega) (fun e => hne e.symm), Below.heap_alloc _ _ _ hk]
    have hP : Pws w' B v' (m + 1) n P := by
      refine ⟨V ++ [.slice b n c], by simp [h1], by simpa using hownV', fun i hi => ?_⟩
      by_cases e : i < m
      · obtain ⟨wi, lo, bi, ci, ei, hoi, hzi, hsi, hki⟩ := h3 i e
        refine ⟨wi, lo, bi, ci, by rw [← ei]; simp [List.getD_eq_getElem?_getD, List.getElem?_append_left, h1, e], hoi, by have := hbel.size; omega, fun k k1 k2 => ?_, fun k hk => ?_⟩
        · rw [hg k (by omega) (fun e2 => hki k e2 ⟨k1, k2⟩), hb.block k (by omega)]
          exact hsi k k1 k2
        · rcases hvb with e2 | e2
          · rw [e2] at hk; exact hki k hk
          · rw [e2] at hk
            simp only [Option.some.injEq] at hk
            have : (w.alloc (.cells #[.slice b n c] 24)).heap.size = w.heap.size + 1 := by simp
            omega
      · obtain rfl : i = m := by omega
        refine ⟨w, w0.heap.size, b, c, by simp [List.getD_eq_getElem?_getD, ← h1], by rw [hPm]; exact hro, hbel.size, fun k k1 k2 => ?_, fun k hk => ?_⟩
        · exact hg k k2 (fun e2 => by have := (own_lt h2 e2).2; omega)
        · rcases hvb with e2 | e2
          · rw [e2] at hk
            have := (own_lt h2 hk).2
            omega
          · rw [e2] at hk
            simp only [Option.some.injEq] at hk
            have : (w.alloc (.cells #[.slice b n c] 24)).heap.size = w.heap.size + 1 := by simp
            omega
    obtain ⟨b', c', hv', _⟩ := own_form hP.choose_spec.2.1
    subst hv'
    exact h b' c' w' hP hbel

set_option maxRecDepth 100000 in
set_option maxHeartbeats 400000 in
theorem sNode (a : Option Addr) (n cap : Nat) (x : Int) (w : World) (hn : n ≤ 1000) : Calls Try.prog 74 #[.slice a n cap, .int .i64 x] w fun e w' => e = .returned (.bool (M.inN n x)) ∧ w = w' := by
  go_enter Try.func74, Try.ntmps74
  go_wp2_with fail
  refine (sIn _ _ _ _).mono ?_
  rintro e w' ⟨rfl, rfl⟩
  go_wp2
  go_ret
  exact ⟨retB (by unfold M.inN; rw [Bool.eq_iff_iff]; simp; omega), rfl⟩
theorem sNode_b (a : Option Addr) (n cap : Nat) (x : Int) (w : World) (b : Bool) (hb : M.inN n x = b) (hn : n ≤ 1000) : Calls Try.prog 74 #[.slice a n cap, .int .i64 x] w fun e w' => e = .returned (.bool b) ∧ w = w' := by
  subst hb; exact sNode a n cap x w hn
end Go.Proofs.Ytkilnneepnbckaa.V

namespace Go.Proofs.Ytkilnneepnbckaa.V
open Go.RowKit

/-- The powers of a matrix. -/
def M.pwL (R : List (List Int)) (n s : Nat) : List (List Int) := M.mk n n (M.cpw (M.ent R) n s)
theorem M.pw_next (R : List (List Int)) (n s : Nat) : M.mk n n (fun i j => M.dot (M.pwL R n s) R i j n) = M.pwL R n (s + 1) :=
  M.mk_congr fun i hi j _ => by
    unfold M.dot
    refine M.sumN_congr fun u hu => ?_
    unfold M.pwL
    rw [M.ent_mk _ _ _ _ _ hi hu]
theorem M.times_comm (x y : Int) : M.times x y = M.times y x := by
  unfold M.times
  by_cases h : x = -1000000000000000 ∨ y = -1000000000000000
  · rw [if_pos h, if_pos (Or.symm h)]
  · rw [if_neg h, if_neg (fun h2 => h (Or.symm h2)), Int.add_comm]

/-- What the search has found among the numbers from p on. -/
def Fnd (L p : Nat) (P : Nat → Prop) (z : Int) : Prop := (z = -1 ∧ ∀ i, p ≤ i → i < L → ¬ P i) ∨ ∃ j : Nat, z = (j : Int) ∧ p ≤ j ∧ j < L ∧ P j ∧ ∀ i, p ≤ i → i < j → ¬ P i
theorem Fnd.start (L : Nat) (P : Nat → Prop) : Fnd L L P (-1) := .inl ⟨rfl, fun i h1 h2 => absurd h2 (by omega)⟩
theorem Fnd.no {L p : Nat} {P : Nat → Prop} {z : Int} (h : Fnd L (p + 1) P z) (hp : ¬ P p) : Fnd L p P z := by
  rcases h with ⟨h1, h2⟩ | ⟨j, h1, h2, h3, h4, h5⟩
  · refine .inl ⟨h1, fun i a b => ?_⟩
    by_cases e : i = p
    · subst e; exact hp
    · exact h2 i (by omega) b
  · refine .inr ⟨j, h1, by omega, h3, h4, fun i a b => ?_⟩
    by_cases e : i = p
    · subst e; exact hp
    · exact h5 i (by omega) b
theorem Fnd.yes {L p : Nat} {P : Nat → Prop} (hp : P p) (hl : p < L) : Fnd L p P (p : Int) := .inr ⟨p, rfl, Nat.le_refl _, hl, hp, fun i a b => absurd b (by omega)⟩
theorem Fnd.fin {L m : Nat} {P : Nat → Prop} {z : Int} (h : Fnd L 0 P z) (hm : P m) (hl : m < L) (hf : ∀ v, v < m → ¬ P v) : z = (m : Int) := by
  rcases h with ⟨h1, h2⟩ | ⟨j, h1, h2, h3, h4, h5⟩
  · exact absurd hm (h2 m (Nat.zero_le _) hl)
  · have a1 : ¬ j < m := fun e => hf j e h4
    have a2 : ¬ m < j := fun e => h5 m (Nat.zero_le _) e hm
    omega
set_option maxRecDepth 100000 in
set_option maxHeartbeats 4000000 in
theorem sHeaviest_ok (a : Option Addr) (n cap : Nat) (R : List (List Int)) (f t : Nat) (w : World) (h : Mat w a n R) (hs : M.sqB R = true) (hf : f < n) (ht : t < n) (hp : M.noPos (M.ent R) n = true) (hst : M.starF (M.ent R) n t f ≠ -1000000000000000) :
    Calls Try.prog 29 #[.slice a n cap, .int .i64 f, .int .i64 t] w (VRes (M.hvL (M.ent R) n t (M.arcs (M.ent R) n f t) f (M.arcs (M.ent R) n f t + 1), 0) w) := by
  have HA := Lib.hid h
  have HS := Lib.hid hs
  have HQ := Lib.hid (sq_of h hs)
  have HSm := Lib.hid (sq_of h hs).2.2.1
  obtain ⟨-, -, -, n1, n2⟩ := sq_of h hs
  have HRB : Hid (∀ i j, i < n → j < n → M.Big (M.ent R i j)) := fun i j hi hj => M.big_sm (HSm.out i j hi hj) (by omega)
  obtain ⟨s, hsd⟩ : ∃ s, s = M.arcs (M.ent R) n f t := ⟨_, rfl⟩
  obtain ⟨k1, k2, k3⟩ := M.arcs_is n2 HSm.out hp hf ht hst
  rw [← hsd] at k1 k2 k3 ⊢
  obtain ⟨y, hy⟩ : ∃ y, y = M.starF (M.ent R) n t f := ⟨_, rfl⟩
  rw [← hy] at k1 k3 hst
  have hy0 : (y == -1000000000000000) = false := by simpa using hst
  have HNf : Hid (M.inN n (f : Int) = true) := by show _ = _; simp [M.inN]; omega
  have HNt : Hid (M.inN n (t : Int) = true) := by show _ = _; simp [M.inN]; omega
  have HC : ∀ w1, Below w.heap.size w w1 → Calls Try.prog 59 #[.slice a n cap] w1 fun e w' => ∃ b c, e = .returned (.tuple #[.slice b n c, .bool true]) ∧ OwnM w' w1.heap.size (.slice b n c) (M.starM R n) ∧ Below w1.heap.size w1 w' := by
    intro w1 hb
    have := sStar a n cap R w1 (HQ.out.below hb)
    rw [hp, M.bm_star n2 HSm.out hp] at this
    exact this
  have HK1 := Lib.hid k1
  have HK3 := Lib.hid k3
  have HY := Lib.hid hy
  have HF1 : Hid (M.cpw (M.ent R) n s t f ≠ -1000000000000000) := by show _ ≠ _; rw [k1]; exact hst
  have hfi : (f : Int) < (n : Int) := by omega
  have hti : (t : Int) < (n : Int) := by omega
  clear h hs hp hst k1 k3 hy hsd
  go_enter Try.func29, Try.ntmps29
  go_wp2_with (first | (go_at_call 58; refine (sSquare_b _ _ _ R _ true HS.out HA.out).mono ?_; rintro e w' ⟨rfl, q, rfl⟩))
  refine (sNode_b _ n _ _ _ true HNf.out (by omega)).mono ?_
  rintro e w' ⟨rfl, rfl⟩
  go_wp2_with fail
  refine (sNode_b _ n _ _ _ true HNt.out (by omega)).mono ?_
  rintro e w' ⟨rfl, rfl⟩
  go_wp2_with fail
  refine (HC _ (b_draws _ _)).mono ?_
  rintro e w1 ⟨a2, cap2, rfl, hO, hb⟩
  have HB1 := Lib.hid (bnext (b_draws w q) hb)
  have HO1 := Lib.hid hO
  obtain ⟨g, sq, L, c, x, rfl, -, -, hL, hx, c1, c2, -, -⟩ := hO.at t f ht (by rw [show M.starM R n = M.mk n n (M.starF (M.ent R) n) from rfl, M.mk_rowlen _ _ _ _ ht]; exact hf)
  have hx2 : x = y := by
    rw [hx, HY.out]
    exact M.mk_ent _ _ _ _ _ ht hf
  subst hx2
  rw [show M.starM R n = M.mk n n (M.starF (M.ent R) n) from rfl, M.mk_rowlen _ _ _ _ ht] at hL
  subst hL
  have HSC : Hid (∀ w', Below w1.heap.size w1 w' → w'.cell? ⟨g, t, none⟩ = some (.slice (some ⟨sq, 0, none⟩) L c) ∧ w'.cell? ⟨sq, f, none⟩ = some (.int .i64 x)) := fun w' hb' => by
    have l1 : g < w1.heap.size := hO.lt rfl
    have l2 : sq < w1.heap.size := cell_lt c2
    rw [hb'.cell (p := ⟨g, t, none⟩) l1, hb'.cell (p := ⟨sq, f, none⟩) l2]
    exact ⟨c1, c2⟩
  clear hO hb HC hx
  go_wp2_with fail
  refine (sUnit L _ (by omega)).mono ?_
  rintro e w2 ⟨a3, cap3, rfl, hU, hb⟩
  have hP0 : Pws (w2.alloc (.cells #[.slice a3 L cap3] 24)) w1.heap.size (.slice (some ⟨w2.heap.size, 0, none⟩) 1 1) 1 L (M.pwL R L) := pws_lit1 w2 _ L hb.size hU _ rfl
  have HP0 := Lib.hid hP0
  have HB2 : Hid (Below w1.heap.size w1 (w2.alloc (.cells #[.slice a3 L cap3] 24))) := hb.alloc hb.size _
  have hz1 : w.heap.size ≤ w1.heap.size := HB1.out.size
  clear hU hb c1 c2 hP0
  go_wp2
  go_loopw [10] (fun o wr => ∃ (k : Nat) (b : Option Addr) (c : Nat), k ≤ s ∧ o = .slice b (k + 1) c ∧ Pws wr w1.heap.size (.slice b (k + 1) c) (k + 1) L (M.pwL R L) ∧ Below w1.heap.size w1 wr) (fun o _ => match o with | .slice _ k _ => s + 1 - k | _ => 0)
  case atStart => exact ⟨0, _, _, Nat.zero_le _, rfl, HP0.out, HB2.out⟩
  case round =>
    obtain ⟨k, b, cc, hk, rfl, hP, hb⟩ := hrel
    obtain ⟨wo, rfl⟩ : ∃ x, x = wr := ⟨_, rfl⟩
    have HP := Lib.hid hP
    have HB := Lib.hid hb
    have hzo : w1.heap.size ≤ wo.heap.size := hb.size
    obtain ⟨gp, bm, cm, rfl, cp, hM⟩ := hP.at k (by omega)
    have HM := Lib.hid hM
    obtain ⟨mb, mo, rb, ro, rc, z, rfl, hz, cz1, cz2⟩ := hM.rect_ent (rect_mk _ _ _) t f ht hf
    have hz2 : z = M.cpw (M.ent R) L k t f := by rw [hz]; exact M.mk_ent _ _ _ _ _ ht hf
    have HZ := Lib.hid hz2
    obtain ⟨cs1, cs2⟩ := HSC.out _ HB.out
    have hi1 : ((k : Int) + 1 - 1) = (k : Int) := by omega
    have hi2 : IntKind.i64.wrap ((k : Int) + 1 - 1) = (k : Int) := by rw [hi1]; exact IntWalk.i64_in _ (by omega)
    clear hP hb HP0 HB2 hM hz hz2
    by_cases hlt : k < s
    · have hne : (z == x) = false := by
        have := HK3.out k hlt
        rw [← HZ.out] at this
        simpa using this
      have hne2 : (z != x) = true := by simpa using hne
      have HPB : Hid (∀ i j, i < L → j < L → M.Big (M.ent (M.pwL R L k) i j)) := fun i j hi hj => by
        unfold M.pwL
        rw [M.ent_mk _ _ _ _ _ hi hj]
        exact M.big_sm (M.cpw_sm HSm.out k i j hi hj) (by omega)
      go_wp2
      go_quiet (fail)
      have HC4 : ∀ w', Below w1.heap.size w1 w' → Mat w' (some ⟨mb, mo, none⟩) L (M.pwL R L k) → Calls Try.prog 62 #[.slice (some ⟨mb, mo, none⟩) L cm, .slice a L cap] w' (MPost L (M.pwL R L (k + 1)) w') := by
        intro w' hb' hm'
        have := sMultiplyB (some ⟨mb, mo, none⟩) L cm L (M.pwL R L k) a cap L R w' hm' (HQ.out.1.below (HB1.out.trans (hb'.mono hz1))) (rect_mk _ _ _) HQ.out.2.1 HPB.out HRB.out n1 n2 n1 n2 n1 n2
        rw [M.pw_next] at this
        exact this
      go_wp2_with fail
      refine (HC4 _ (below_drewN HB.out _) (HM.out.below (b_draws _ _))).mono ?_
      rintro e w3 ⟨a4, c4, rfl, hM4, hb3⟩
      have HM4 := Lib.hid hM4
      have HB3 := Lib.hid hb3
      have HB3' := Lib.hid ((below_drewN HB.out _).trans (hb3.mono hzo))
      clear hM4 hb3
      go_wp2_with (at_builtin; refine appendMat _ _ rfl (.tmp 71) (.tmp 80) rfl w1.heap.size _ _ _ (k + 1) L (M.pwL R L) _ rfl (HP.out.below (b_draws _ _)) HB3.out HM4.out rfl rfl (by omega) hzo ?_)
      intro b5 c5 w5 hP5 hb5
      have HP5 := Lib.hid hP5
      have HB5 := Lib.hid (HB3'.out.trans hb5)
      clear hP5 hb5
      go_wp2
      go_roundw
      case rel => exact ⟨k + 1, _, _, by omega, rfl, HP5.out, HB5.out⟩
      case measure => simp; omega
    · obtain rfl : k = s := by omega
      obtain rfl : z = x := by rw [HZ.out]; exact HK1.out
      go_wp2
      go_quiet (fail)
      go_wp2_with fail
      go_region_held3 (fun w' => w'.cell? ⟨g, t, none⟩ = some (.slice (some ⟨sq, 0, none⟩) L c) ∧ w'.cell? ⟨sq, f, none⟩ = some (.int .i64 z))
        (first | exact HSC.out _ (below_drewN HB.out _).drew | exact HSC.out _ ((below_drewN HB.out _).drew.alloc hzo _) | go_keep)
        (fail)
      have hfl : Hid ([(f : Int)] = M.hvL (M.ent R) L t k f 1) := rfl
      have HNd : Hid (z = M.cpw (M.ent R) L (k - 0) t (M.xs (M.ent R) L t k f 0)) := HK1.out.symm
      have HPo := Lib.hid HP.out
      clear cz1 cz2 cs1 cs2 hi1 hi2 cp
      go_wp2
      go_loopw [11, 12, 13, 14, 15, 16] (fun o nd i _ _ _ wr => ∃ (m : Nat) (b : Option Addr) (c : Nat) (u v : Int), m ≤ k ∧ u = (k : Int) - 1 - (m : Int) ∧ i = .int .i64 u ∧ o = .slice b (m + 1) c ∧ nd = .int .i64 v ∧ Hid (v = M.cpw (M.ent R) L (k - m) t (M.xs (M.ent R) L t k f m)) ∧ Own wr wo.heap.size (.slice b (m + 1) c) (M.hvL (M.ent R) L t k f (m + 1)) ∧ Below wo.heap.size wo wr) (fun o _ _ _ _ _ _ => match o with | .slice _ m _ => k + 1 - m | _ => 0)
      case atStart => exact ⟨0, _, _, _, _, Nat.zero_le _, by omega, rfl, rfl, rfl, HNd, (congrArg (Own _ _ _) hfl.out).mp (own_lit1 _ _ _ (Nat.le_refl _)), (b_draws _ _).alloc (Nat.le_refl _) _⟩
      case round =>
        obtain ⟨m, b, c', u, v, hm, hu, rfl, rfl, rfl, HV, hO, hb⟩ := hrel
        obtain ⟨wp, rfl⟩ : ∃ x, x = wr := ⟨_, rfl⟩
        have HO := Lib.hid hO
        have HBp := Lib.hid hb
        have hzp : wo.heap.size ≤ wp.heap.size := hb.size
        clear hO hb HNd
        by_cases hmk : m < k
        · obtain ⟨e, rfl⟩ : ∃ e : Nat, u = (e : Int) := ⟨u.toNat, by omega⟩
          have he : e + 1 + m = k := by omega
          obtain ⟨hx1, hx2⟩ := M.xs_inv HSm.out k2 ht hf HF1.out m (by omega)
          have hneed := M.xs_need HSm.out k2 ht hf HF1.out m hmk
          rw [← HV.out] at hx2 hneed
          have hxs : M.xs (M.ent R) L t k f (m + 1) = M.nxt (M.ent R) L t e (M.xs (M.ent R) L t k f m) := by
            show M.nxt _ _ _ (k - 1 - m) _ = _
            rw [show k - 1 - m = e by omega]
          have hke : k - m = e + 1 := by omega
          have hv' := HV.out
          rw [hke] at hv'
          obtain ⟨d, od, x1, rfl, -, hx1', cx⟩ := HO.out.ints'.at m (by omega)
          rw [M.hvL_at _ _ _ _ _ _ _ (by omega)] at hx1'
          obtain ⟨xk, hxk⟩ : ∃ xk, xk = M.xs (M.ent R) L t k f m := ⟨_, rfl⟩
          rw [← hxk] at hx1' hx1 hneed hxs hv'
          subst hx1'
          have hxi : (xk : Int) < (L : Int) := by omega
          obtain ⟨hn1, hn2, hn3⟩ := M.nxt_is HSm.out (s := e) (x := xk) (by omega) ht hx1 (by rw [← hv']; exact hx2)
          rw [← hxs] at hn1 hn2 hn3
          obtain ⟨nx, hnx⟩ : ∃ nx, nx = M.xs (M.ent R) L t k f (m + 1) := ⟨_, rfl⟩
          rw [← hnx] at hn1 hn2 hn3 hneed
          rw [← hv'] at hn2 hn3
          have HN2 := Lib.hid hn2
          have HN3 := Lib.hid hn3
          obtain ⟨gq, be, ce, hgq, ce1, hMe⟩ := (HP.out.below HBp.out).at e (by omega)
          injection hgq with hgq
          injection hgq with hgq
          subst hgq
          have HME := Lib.hid hMe
          have HAp := Lib.hid (HQ.out.below (HB1.out.trans ((HB.out.trans (HBp.out.mono hzo)).mono hz1)))
          obtain ⟨dn, odn, rdn, rdno, cn4, an, rfl, han, cn1, cn2⟩ := HAp.out.1.rect_ent HAp.out.2.1 nx xk hn1 hx1
          have HNX : Hid (M.hvL (M.ent R) L t k f (m + 1) ++ [(nx : Int)] = M.hvL (M.ent R) L t k f (m + 1 + 1)) := by show _ = _; rw [hnx, ← M.hvL_succ]
          have HLn : Hid ((M.hvL (M.ent R) L t k f (m + 1)).length = m + 1) := M.hvL_len _ _ _ _ _ _
          have HNE : Hid (v - an = M.cpw (M.ent R) L (k - (m + 1)) t (M.xs (M.ent R) L t k f (m + 1))) := by show _ = _; rw [← hnx, hneed, han]
          have HVB : Hid (-100000000000000 ≤ v ∧ v ≤ 100000000000000) := by
            have h1 := M.cpw_sm HSm.out (e + 1) t xk ht hx1
            rw [← hv'] at h1
            unfold M.Sm at h1
            show _ ∧ _
            omega
          have HAB : Hid (-10000000000000 ≤ an ∧ an ≤ 10000000000000) := by
            have h1 := HSm.out nx xk hn1 hx1
            have h2 := (M.nxt_fin HSm.out (s := e) (x := xk) (by omega) ht hx1 (by rw [← hv']; exact hx2)).2
            rw [← hxs, ← hnx] at h2
            rw [← han] at h1 h2
            unfold M.Sm at h1
            show _ ∧ _
            omega
          obtain ⟨vb1, vb2⟩ := HVB.out
          obtain ⟨ab1, ab2⟩ := HAB.out
          have hnxi : (nx : Int) < (L : Int) := by omega
          have hei : (e : Int) < (k : Int) + 1 := by omega
          have hv0 : (v == -1000000000000000) = false := by simpa using hx2
          clear hx2 hneed hxs hv' hn2 hn3 hMe han hxk hnx hu
          obtain ⟨P, hP⟩ : ∃ P : Nat → Prop, P = fun i => M.times (M.cpw (M.ent R) L e t i) (M.ent R i xk) = v := ⟨_, rfl⟩
          have HPp := Lib.hid hP
          have hQ0 : Hid (Fnd L L P (-1)) := Fnd.start L P
          have hgE : ∃ bb bo, be = some ⟨bb, bo, none⟩ := by
            obtain ⟨b2, off2, _, _, hbe, _, _⟩ := HME.out.rect_first (rect_mk _ _ _) (by omega)
            exact ⟨b2, off2, hbe⟩
          obtain ⟨bb, bo, rfl⟩ := hgE
          clear hP
          go_wp2
          go_loopw [15, 16] (fun nv iv wr => ∃ (p : Nat) (i y : Int), p ≤ L ∧ i = (p : Int) - 1 ∧ iv = .int .i64 i ∧ nv = .int .i64 y ∧ Hid (Fnd L p P y) ∧ ∃ q, wr = wp.drewN q) (fun _ iv _ => (intOf iv + 1).toNat)
          case atStart => exact ⟨L, _, _, Nat.le_refl _, rfl, rfl, rfl, hQ0, 0, rfl⟩
          case round =>
            obtain ⟨p, i, y, hp, hi, rfl, rfl, HFd, q3, rfl⟩ := hrel
            clear hQ0
            by_cases hp0 : 0 < p
            · obtain ⟨p', rfl⟩ : ∃ p', p = p' + 1 := ⟨p - 1, by omega⟩
              obtain rfl : i = (p' : Int) := by omega
              clear hi
              have hpi : (p' : Int) < (L : Int) := by omega
              obtain ⟨d1, od1, rd1, rdo1, cn5, x2, hd1, hx2, cx1, cx2⟩ := HAp.out.1.rect_ent HAp.out.2.1 p' xk (by omega) hx1
              injection hd1 with hd1
              injection hd1 with e1 e2
              subst e1 e2
              obtain ⟨d2, od2, rd2, rdo2, cn6, y2, hd2, hy2, cy1, cy2⟩ := HME.out.rect_ent (rect_mk _ _ _) t p' ht (by omega)
              injection hd2 with hd2
              injection hd2 with e1 e2
              subst e1 e2
              have hy2' : y2 = M.cpw (M.ent R) L e t p' := by rw [hy2]; exact M.mk_ent _ _ _ _ _ ht (by omega)
              have HX2 : Hid (M.Big x2) := by show M.Big _; rw [hx2]; exact HRB.out p' xk (by omega) hx1
              have HY2 : Hid (M.Big y2) := by show M.Big _; rw [hy2']; exact M.big_sm (M.cpw_sm HSm.out e t p' ht (by omega)) (by omega)
              have HPP : Hid (P p' ↔ M.times x2 y2 = v) := by
                show _ ↔ _
                rw [HPp.out, M.times_comm x2 y2, hx2, hy2']
              by_cases hb0 : x2 = -1000000000000000
              · have HNo : Hid (Fnd L p' P y) := HFd.out.no (fun h => by
                  have := HPP.out.1 h
                  rw [hb0, M.bot_times] at this
                  rw [← this] at hv0
                  simp at hv0)
                clear hx2 hy2 hy2'
                subst hb0
                go_wp2
                go_quiet (fail)
                go_wp2
                go_roundw
                case rel => exact ⟨p', _, _, by omega, rfl, rfl, rfl, HNo, _, rfl⟩
                case measure => simp [intOf]
              · have hb1 : (x2 == -1000000000000000) = false := by simpa using hb0
                have hb2 : (x2 != -1000000000000000) = true := by simpa using hb0
                obtain ⟨u2, hu2⟩ : ∃ u2, u2 = M.times x2 y2 := ⟨_, rfl⟩
                have HU2 := Lib.hid hu2
                have HC1 : ∀ w : World, Calls Try.prog 76 #[.int .i64 x2, .int .i64 y2] w fun e w' => e = .returned (.int .i64 u2) ∧ w = w' := by
                  intro w
                  rw [hu2]
                  exact sTimesB _ _ _ HX2.out HY2.out
                clear hx2 hy2 hy2' hu2 hb0
                by_cases huv : u2 = v
                · have HYes : Hid (Fnd L p' P (p' : Int)) := Fnd.yes (HPP.out.2 (by rw [← HU2.out]; exact huv)) (by omega)
                  subst huv
                  go_wp2
                  go_quiet ((go_at_call 76; exact q_more_s (HC1 _)))
                  go_wp2
                  go_roundw
                  case rel => exact ⟨p', _, _, by omega, rfl, rfl, rfl, HYes, _, rfl⟩
                  case measure => simp [intOf]
                · have huv1 : (u2 == v) = false := by simpa using huv
                  have HNo : Hid (Fnd L p' P y) := HFd.out.no (fun h => huv (by rw [HU2.out]; exact HPP.out.1 h))
                  clear huv
                  go_wp2
                  go_quiet ((go_at_call 76; exact q_more_s (HC1 _)))
                  go_wp2
                  go_roundw
                  case rel => exact ⟨p', _, _, by omega, rfl, rfl, rfl, HNo, _, rfl⟩
                  case measure => simp [intOf]
            · obtain rfl : p = 0 := by omega
              have hneg : i < 0 := by omega
              obtain rfl : y = (nx : Int) := HFd.out.fin (by rw [HPp.out]; exact HN2.out) hn1 (fun v' hv' => by rw [HPp.out]; exact HN3.out v' hv')
              clear hi
              have hzq : wo.heap.size ≤ (wp.drewN q3).heap.size := hzp
              have HOq : Hid (Own (wp.drewN q3) wo.heap.size (.slice (some ⟨d, od, none⟩) (m + 1) c') (M.hvL (M.ent R) L t k f (m + 1))) := HO.out.below (b_draws _ _)
              have HBq : Hid (Below wo.heap.size wo (wp.drewN q3)) := below_drewN HBp.out _
              have cn1q : (wp.drewN q3).cell? ⟨dn, odn + nx, none⟩ = some (.slice (some ⟨rdn, rdno, none⟩) L cn4) := cn1
              have cn2q : (wp.drewN q3).cell? ⟨rdn, rdno + xk, none⟩ = some (.int .i64 an) := cn2
              clear cn1 cn2
              generalize wp.drewN q3 = wq at HOq HBq hzq cn1q cn2q
              go_wp2_with (at_builtin; refine append1 _ rfl (.tmp 151) (.tmp 153) rfl wo.heap.size _ _ _ (m + 1) HLn.out rfl HOq.out rfl (by rw [HLn.out]; omega) hzq ?_)
              intro b7 c7 w7 hO7 hb7 _
              rw [HNX.out] at hO7
              have HO7 := Lib.hid hO7
              have HB7 := Lib.hid (HBq.out.trans hb7)
              clear hO7 hb7
              go_wp2
              go_roundw
              case rel => exact ⟨m + 1, _, _, _, _, by omega, by omega, rfl, rfl, rfl, HNE, HO7.out, HB7.out⟩
              case measure => simp; omega
        · obtain rfl : m = k := by omega
          have hneg : u < 0 := by omega
          clear hu
          go_wp2
          go_ret2
          exact ⟨_, _, _, rfl, HO.out.mono (Nat.le_trans hz1 hzo), (HB1.out.trans ((HB.out.trans (HBp.out.mono hzo)).mono hz1))⟩

set_option maxRecDepth 100000 in
set_option maxHeartbeats 1000000 in
theorem sHeaviestPath (a : Option Addr) (n cap : Nat) (R : List (List Int)) (f t : Int) (w : World) (h : Mat w a n R) :
    Calls Try.prog 29 #[.slice a n cap, .int .i64 f, .int .i64 t] w (VRes (M.heavyRes R f t) w) := by
  have HA := Lib.hid h
  have HR := Lib.hid h.1
  by_cases hs : M.sqB R = true
  · have HS := Lib.hid hs
    have HQ := Lib.hid (sq_of h hs)
    have HSm := Lib.hid (sq_of h hs).2.2.1
    obtain ⟨-, -, -, n1, n2⟩ := sq_of h hs
    by_cases hnf : M.inN n f = true
    · have HNf := Lib.hid hnf
      obtain ⟨f', rfl⟩ : ∃ f' : Nat, f = (f' : Int) := by
        have := M.inN_t hnf
        exact ⟨f.toNat, by omega⟩
      have hf : f' < n := by have := M.inN_t hnf; omega
      by_cases hnt : M.inN n t = true
      · have HNt := Lib.hid hnt
        obtain ⟨t', rfl⟩ : ∃ t' : Nat, t = (t' : Int) := by
          have := M.inN_t hnt
          exact ⟨t.toNat, by omega⟩
        have ht : t' < n := by have := M.inN_t hnt; omega
        have hn : (M.inN n (f' : Int) && M.inN n (t' : Int)) = true := by rw [hnf, hnt]; rfl
        have hfi : (f' : Int) < (n : Int) := by omega
        have hti : (t' : Int) < (n : Int) := by omega
        by_cases hp : M.noPos (M.ent R) n = true
        · by_cases hst : M.starF (M.ent R) n t' f' = -1000000000000000
          · have HE : Hid (M.heavyRes R f' t' = ([], 4)) := by
              show _ = _; unfold M.heavyRes; rw [hs, HR.out, hn, hp]
              rw [if_pos (by rfl), if_pos (by rfl), if_pos (by rfl), if_pos (by rw [Int.toNat_natCast, Int.toNat_natCast]; exact hst)]
            have HC : ∀ w1, Below w.heap.size w w1 → Calls Try.prog 59 #[.slice a n cap] w1 fun e w' => ∃ b c, e = .returned (.tuple #[.slice b n c, .bool true]) ∧ OwnM w' w1.heap.size (.slice b n c) (M.starM R n) ∧ Below w1.heap.size w1 w' := by
              intro w1 hb
              have := sStar a n cap R w1 (HQ.out.below hb)
              rw [hp, M.bm_star n2 HSm.out hp] at this
              exact this
            have HST := Lib.hid hst
            clear h hs hn hp hst hnf hnt
            go_enter Try.func29, Try.ntmps29
            go_wp2_with (go_at_call 58; refine (sSquare_b _ _ _ R _ true HS.out HA.out).mono ?_; rintro e w' ⟨rfl, q, rfl⟩)
            refine (sNode_b _ n _ _ _ true HNf.out (by omega)).mono ?_
            rintro e w' ⟨rfl, rfl⟩
            go_wp2_with fail
            refine (sNode_b _ n _ _ _ true HNt.out (by omega)).mono ?_
            rintro e w' ⟨rfl, rfl⟩
            go_wp2_with fail
            refine (HC _ (b_draws _ _)).mono ?_
            rintro e w1 ⟨a2, cap2, rfl, hO, hb⟩
            have HB1 := Lib.hid (bnext (b_draws w q) hb)
            obtain ⟨g, sq, L, c, x, rfl, -, -, hL, hx, c1, c2, -, -⟩ := hO.at t' f' ht (by rw [show M.starM R n = M.mk n n (M.starF (M.ent R) n) from rfl, M.mk_rowlen _ _ _ _ ht]; exact hf)
            have hx2 : x = -1000000000000000 := by
              rw [hx, ← HST.out]
              exact M.mk_ent _ _ _ _ _ ht hf
            subst hx2
            rw [show M.starM R n = M.mk n n (M.starF (M.ent R) n) from rfl, M.mk_rowlen _ _ _ _ ht] at hL
            subst hL
            clear hO hb HC hx
            go_wp2
            go_ret2
            exact VRes.nil HE.out HB1.out
          · have HE : M.heavyRes R f' t' = (M.hvL (M.ent R) n t' (M.arcs (M.ent R) n f' t') f' (M.arcs (M.ent R) n f' t' + 1), 0) := by
              unfold M.heavyRes; rw [hs, HR.out, hn, hp]
              rw [if_pos (by rfl), if_pos (by rfl), if_pos (by rfl), if_neg (by rw [Int.toNat_natCast, Int.toNat_natCast]; exact hst)]
              rw [Int.toNat_natCast, Int.toNat_natCast]
            rw [HE]
            exact sHeaviest_ok _ _ _ _ _ _ _ h hs hf ht hp hst
        · simp only [Bool.not_eq_true] at hp
          have HE : Hid (M.heavyRes R f' t' = ([], 5)) := by
            show _ = _; unfold M.heavyRes; rw [hs, HR.out, hn, hp]; rfl
          have HC : ∀ w1, Below w.heap.size w w1 → Calls Try.prog 59 #[.slice a n cap] w1 fun e w' => ∃ b c, e = .returned (.tuple #[.slice b n c, .bool false]) ∧ OwnM w' w1.heap.size (.slice b n c) (M.bmM R n n) ∧ Below w1.heap.size w1 w' := by
            intro w1 hb
            have := sStar a n cap R w1 (HQ.out.below hb)
            rw [hp] at this
            exact this
          clear h hs hn hp hnf hnt
          go_enter Try.func29, Try.ntmps29
          go_wp2_with (go_at_call 58; refine (sSquare_b _ _ _ R _ true HS.out HA.out).mono ?_; rintro e w' ⟨rfl, q, rfl⟩)
          refine (sNode_b _ n _ _ _ true HNf.out (by omega)).mono ?_
          rintro e w' ⟨rfl, rfl⟩
          go_wp2_with fail
          refine (sNode_b _ n _ _ _ true HNt.out (by omega)).mono ?_
          rintro e w' ⟨rfl, rfl⟩
          go_wp2_with fail
          refine (HC _ (b_draws _ _)).mono ?_
          rintro e w1 ⟨a2, cap2, rfl, hO, hb⟩
          have HB1 := Lib.hid (bnext (b_draws w q) hb)
          clear hO hb HC
          go_wp2
          go_ret2
          exact VRes.nil HE.out HB1.out
      · simp only [Bool.not_eq_true] at hnt
        have HNt := Lib.hid hnt
        have HE : Hid (M.heavyRes R f' t = ([], 2)) := by
          show _ = _; unfold M.heavyRes; rw [hs, HR.out, hnf, hnt]; rfl
        clear h hs hnf hnt
        go_enter Try.func29, Try.ntmps29
        go_wp2_with (go_at_call 58; refine (sSquare_b _ _ _ R _ true HS.out HA.out).mono ?_; rintro e w' ⟨rfl, q, rfl⟩)
        refine (sNode_b _ n _ _ _ true HNf.out (by omega)).mono ?_
        rintro e w' ⟨rfl, rfl⟩
        go_wp2_with fail
        refine (sNode_b _ n _ _ _ false HNt.out (by omega)).mono ?_
        rintro e w' ⟨rfl, rfl⟩
        go_wp2
        go_ret2
        exact VRes.nil HE.out (b_draws _ _)
    · simp only [Bool.not_eq_true] at hnf
      have HNf := Lib.hid hnf
      have HE : Hid (M.heavyRes R f t = ([], 2)) := by
        show _ = _; unfold M.heavyRes; rw [hs, HR.out, hnf]; rfl
      clear h hs hnf
      go_enter Try.func29, Try.ntmps29
      go_wp2_with (go_at_call 58; refine (sSquare_b _ _ _ R _ true HS.out HA.out).mono ?_; rintro e w' ⟨rfl, q, rfl⟩)
      refine (sNode_b _ n _ _ _ false HNf.out (by omega)).mono ?_
      rintro e w' ⟨rfl, rfl⟩
      go_wp2
      go_ret2
      exact VRes.nil HE.out (b_draws _ _)
  · simp only [Bool.not_eq_true] at hs
    have HS := Lib.hid hs
    have HE : Hid (M.heavyRes R f t = ([], 1)) := by show _ = _; unfold M.heavyRes; rw [hs]; rfl
    clear h hs
    go_enter Try.func29, Try.ntmps29
    go_wp2_with (go_at_call 58; refine (sSquare_b _ _ _ R _ false HS.out HA.out).mono ?_; rintro e w' ⟨rfl, q, rfl⟩)
    go_ret2
    exact VRes.nil HE.out (b_draws _ _)
end Go.Proofs.Ytkilnneepnbckaa.V

namespace Go.Proofs.Ytkilnneepnbckaa.V
open Go.RowKit

set_option maxRecDepth 100000 in
set_option maxHeartbeats 1000000 in
theorem drawFixedPoint (a : Option Addr) (n cap : Nat) (w : World) (h : Bytes w a n) :
    Calls Try.prog 40 #[.slice a n cap] w (DrawnMV w) := by
  have HB := Lib.hid h
  clear h
  go_enter Try.func40, Try.ntmps40
  go_wp2_with fail
  refine (from_ _ _ _ _ HB.out).mono ?_
  rintro e w1 ⟨rfl, hs1, hb1⟩
  have HS1 := Lib.hid hs1
  have HB1 := Lib.hid hb1
  have hg1 := hs1.lt
  clear hs1 hb1
  go_wp2_with fail
  refine (draw3 _ _ HS1.out).mono ?_
  rintro e w2 ⟨a2, n2, c2, R, rfl, hn2, ho, hs2, ht2⟩
  have HO2 := Lib.hid ho
  have HS2 := Lib.hid hs2
  have HB2 := Lib.hid (HB1.out.trans ht2.below)
  clear ho hs2 ht2
  go_wp2_with fail
  refine (next _ 20 _ (by decide) HS2.out).mono ?_
  rintro e w3 ⟨x, rfl, hx1, -, hs3, ht3⟩
  have HO3 := Lib.hid (HO2.out.thr ht3 hg1)
  have HS3 := Lib.hid hs3
  have HB3 := Lib.hid (HB2.out.trans ht3.below)
  clear hs3 ht3 HO2 HS2 HB2
  by_cases hx0 : x = 0
  · subst hx0
    have e1 : (n2 : Int) + 1 = ((n2 + 1 : Nat) : Int) := by omega
    have E1 := Lib.hid e1
    clear e1
    go_wp2_with fail
    rw [E1.out]
    refine (drawVector _ (n2 + 1) _ HS3.out (by omega)).mono ?_
    rintro e w6 ⟨a6, n6, c6, l, rfl, ho6, hs6, ht6⟩
    have HI := Lib.hid ho6.ints'
    have HM := Lib.hid (HO3.out.thr ht6 hg1).mat
    have HB6 := Lib.hid (HB3.out.trans ht6.below)
    clear ho6 hs6 ht6
    go_wp2
    go_ret2
    exact ⟨_, _, _, R, _, _, _, l, rfl, HM.out, HI.out, HB6.out⟩
  · have ex : (x == 0) = false := by simpa using hx0
    go_wp2_with fail
    refine (drawVector _ n2 _ HS3.out (by omega)).mono ?_
    rintro e w6 ⟨a6, n6, c6, l, rfl, ho6, hs6, ht6⟩
    have HI := Lib.hid ho6.ints'
    have HM := Lib.hid (HO3.out.thr ht6 hg1).mat
    have HB6 := Lib.hid (HB3.out.trans ht6.below)
    clear ho6 hs6 ht6
    go_wp2
    go_ret2
    exact ⟨_, _, _, R, _, _, _, l, rfl, HM.out, HI.out, HB6.out⟩

/-- A drawn matrix and two drawn numbers. -/
def DrawnMII (w : World) (e : Ending) (w' : World) : Prop :=
  ∃ (a : Option Addr) (n cap : Nat) (R : List (List Int)) (x y : Int), e = .returned (.tuple #[.slice a n cap, .int .i64 x, .int .i64 y]) ∧ Mat w' a n R ∧ Below w.heap.size w w'
set_option maxRecDepth 100000 in
set_option maxHeartbeats 1000000 in
theorem drawHeaviestPath (a : Option Addr) (n cap : Nat) (w : World) (h : Bytes w a n) :
    Calls Try.prog 27 #[.slice a n cap] w (DrawnMII w) := by
  have HB := Lib.hid h
  clear h
  go_enter Try.func27, Try.ntmps27
  go_wp2_with fail
  refine (from_ _ _ _ _ HB.out).mono ?_
  rintro e w1 ⟨rfl, hs1, hb1⟩
  have HS1 := Lib.hid hs1
  have HB1 := Lib.hid hb1
  have hg1 := hs1.lt
  clear hs1 hb1
  go_wp2_with fail
  refine (draw3 _ _ HS1.out).mono ?_
  rintro e w2 ⟨a2, n2, c2, R, rfl, hn2, ho, hs2, ht2⟩
  have HO2 := Lib.hid ho
  have HS2 := Lib.hid hs2
  have HB2 := Lib.hid (HB1.out.trans ht2.below)
  clear ho hs2 ht2
  go_wp2_with fail
  refine (next _ 30 _ (by decide) HS2.out).mono ?_
  rintro e w3 ⟨x, rfl, hx1, -, hs3, ht3⟩
  have HO3 := Lib.hid (HO2.out.thr ht3 hg1)
  have HS3 := Lib.hid hs3
  have HB3 := Lib.hid (HB2.out.trans ht3.below)
  have hwn : (Lit.int .i64 (n2 : Int)).wf = true := wf_small _ (by omega) (by omega)
  have HWN := Lib.hid hwn
  clear hs3 ht3 HO2 HS2 HB2 hwn
  by_cases hx0 : x = 0
  · subst hx0
    have hlit : Hid (∀ i, i < 2 → ∃ x : Int, (Lit.int .i64 x).wf = true ∧ (w3.alloc (.cells #[.int .i64 (-1), .int .i64 n2] 2)).cell? ⟨w3.heap.size, 0 + i, none⟩ = some (.int .i64 x)) := fun i hi => by
      rcases (show i = 0 ∨ i = 1 by omega) with rfl | rfl
      · exact ⟨-1, by decide, by simp⟩
      · exact ⟨n2, HWN.out, by simp⟩
    go_wp2_with fail
    refine (pick _ _ 0 2 2 _ (HS3.out.alloc _) (by omega) (by omega) HS3.out.lt hlit.out).mono ?_
    rintro e w6 ⟨y, rfl, hyw, hs6, ht6⟩
    have HM := Lib.hid ((HO3.out.below (b_alloc w3 (.cells #[.int .i64 (-1), .int .i64 n2] 2))).thr ht6 hg1).mat
    have HB6 := Lib.hid ((HB3.out.alloc HB3.out.size _).trans ht6.below)
    clear hs6 ht6 hyw
    go_wp2
    exact bodyPost_ret (v := .tuple #[.slice a2 n2 c2, .int .i64 y, .int .i64 0]) (by simp [results, Try.results27, go_sem]) rfl ⟨_, _, _, R, _, _, rfl, HM.out, HB6.out⟩
  · have ex : (x == 0) = false := by simpa using hx0
    go_wp2_with fail
    refine (next _ _ _ HWN.out HS3.out).mono ?_
    rintro e w6 ⟨y, rfl, -, -, hs6, ht6⟩
    have HO6 := Lib.hid (HO3.out.thr ht6 hg1)
    have HS6 := Lib.hid hs6
    have HB6 := Lib.hid (HB3.out.trans ht6.below)
    clear hs6 ht6
    go_wp2_with fail
    refine (next _ _ _ HWN.out HS6.out).mono ?_
    rintro e w7 ⟨z, rfl, -, -, hs7, ht7⟩
    have HM := Lib.hid (HO6.out.thr ht7 hg1).mat
    have HB7 := Lib.hid (HB6.out.trans ht7.below)
    clear hs7 ht7
    go_wp2
    exact bodyPost_ret (v := .tuple #[.slice a2 n2 c2, .int .i64 y, .int .i64 z]) (by simp [results, Try.results27, go_sem]) rfl ⟨_, _, _, R, _, _, rfl, HM.out, HB7.out⟩
end Go.Proofs.Ytkilnneepnbckaa.V
