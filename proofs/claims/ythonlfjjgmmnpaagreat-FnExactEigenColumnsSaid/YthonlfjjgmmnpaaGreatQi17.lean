/- Texts laid together: MatH, Hv3, Scp, Upp, Pck. -/
import Derived.Test.YthonlfjjgmmnpaaGreatQi1
import Derived.Test.YthonlfjjgmmnpaaGreatRows
import Derived.Test.YthonlfjjgmmnpaaGreatQi2
import Derived.Test.YthonlfjjgmmnpaaGreatQi3
import Derived.WalkKit
import Derived.ProofKit
import Derived.WalkSmall
import Derived.Lib.Hide
import Derived.Deep.OwnRows
import Derived.Maps.AppendAt
import Derived.Test.YthonlfjjgmmnpaaGreatQi16
import Derived.Test.YthonlfjjgmmnpaaGreatQi8
import Derived.Test.YthonlfjjgmmnpaaGreatQi5
namespace Go.Proofs.YthonlfjjgmmnpaaGreat
namespace M
/-- The least number from k on that fits, within so many. -/
def lv (p : Nat → Bool) : Nat → Nat → Nat
  | 0, k => k
  | f + 1, k => if p k then k else lv p f (k + 1)
theorem lv_is {p : Nat → Bool} {m : Nat} (hm : p m = true) (f : Nat) : ∀ k, k ≤ m → m < k + f → (∀ v, k ≤ v → v < m → p v = false) → lv p f k = m := by
  induction f with
  | zero => intro k h1 h2; omega
  | succ f ih =>
    intro k h1 h2 h3
    by_cases e : k = m
    · subst e; show (if p k then k else _) = _; rw [if_pos hm]
    · show (if p k then k else _) = _
      rw [h3 k (Nat.le_refl _) (by omega), if_neg (by simp)]
      exact ih (k + 1) (by omega) (by omega) fun v h4 h5 => h3 v (by omega) h5
theorem lv_ex {p : Nat → Bool} {n : Nat} (h : ∃ m, m < n ∧ p m = true) : p (lv p n 0) = true ∧ lv p n 0 < n ∧ ∀ v, v < lv p n 0 → p v = false := by
  have key : ∀ n, (∃ m, m < n ∧ p m = true) → ∃ m, m < n ∧ p m = true ∧ ∀ v, v < m → p v = false := by
    intro n
    induction n with
    | zero => rintro ⟨m, hm, _⟩; omega
    | succ n ih =>
      rintro ⟨m, hm, hp⟩
      by_cases e : ∃ m, m < n ∧ p m = true
      · obtain ⟨m, h1, h2, h3⟩ := ih e
        exact ⟨m, by omega, h2, h3⟩
      · refine ⟨m, hm, hp, fun v hv => ?_⟩
        cases h : p v with
        | false => rfl
        | true => exact absurd ⟨v, by omega, h⟩ e
  obtain ⟨m, h1, h2, h3⟩ := key n h
  rw [lv_is h2 n 0 (Nat.zero_le _) (by omega) fun v _ hv => h3 v hv]
  exact ⟨h2, h1, h3⟩
/-- Whether a heaviest path with s + 1 arcs goes on from x by v. -/
def stepB (A : Nat → Nat → Int) (n t s x v : Nat) : Bool := decide (times (cpw A n s t v) (A v x) = cpw A n (s + 1) t x)
def nxt (A : Nat → Nat → Int) (n t s x : Nat) : Nat := lv (stepB A n t s x) n 0
/-- The number of arcs. -/
def arcs (A : Nat → Nat → Int) (n f t : Nat) : Nat := lv (fun s => decide (cpw A n s t f = starF A n t f)) 11 0
/-- The nodes of the path. -/
def xs (A : Nat → Nat → Int) (n t s f : Nat) : Nat → Nat
  | 0 => f
  | k + 1 => nxt A n t (s - 1 - k) (xs A n t s f k)
def hvL (A : Nat → Nat → Int) (n t s f : Nat) (k : Nat) : List Int := (List.range k).map fun i => ((xs A n t s f i : Nat) : Int)
def heavyRes (R : List (List Int)) (f t : Int) : List Int × Int :=
  if sqB R then (if inN R.length f && inN R.length t then (if noPos (ent R) R.length then (if starF (ent R) R.length t.toNat f.toNat = -1000000000000000 then ([], 4)
    else (hvL (ent R) R.length t.toNat (arcs (ent R) R.length f.toNat t.toNat) f.toNat (arcs (ent R) R.length f.toNat t.toNat + 1), 0)) else ([], 5)) else ([], 2)) else ([], 1)
theorem hvL_len (A : Nat → Nat → Int) (n t s f k : Nat) : (hvL A n t s f k).length = k := by simp [hvL]
theorem hvL_succ (A : Nat → Nat → Int) (n t s f k : Nat) : hvL A n t s f (k + 1) = hvL A n t s f k ++ [((xs A n t s f k : Nat) : Int)] := by
  unfold hvL; rw [List.range_succ]; simp
theorem hvL_at (A : Nat → Nat → Int) (n t s f k i : Nat) (h : i < k) : (hvL A n t s f k).getD i 0 = ((xs A n t s f i : Nat) : Int) := by
  simp [hvL, h]
theorem lv_le (p : Nat → Bool) (f : Nat) : ∀ k, lv p f k ≤ k + f := by
  induction f with
  | zero => intro k; exact Nat.le_refl _
  | succ f ih =>
    intro k
    show (if p k then k else _) ≤ _
    split
    · omega
    · have := ih (k + 1); omega
theorem heavyRes_len (R : List (List Int)) (f t : Int) : (heavyRes R f t).1.length ≤ 12 := by
  unfold heavyRes
  split
  · split
    · split
      · split
        · simp
        · rw [hvL_len]
          have := lv_le (fun s => decide (cpw (ent R) R.length s t.toNat f.toNat = starF (ent R) R.length t.toNat f.toNat)) 11 0
          unfold arcs
          omega
      · simp
    · simp
  · simp
section
variable {A : Nat → Nat → Int} {n : Nat} (hn : n ≤ 10) (hA : ∀ i j, i < n → j < n → Sm 1000001000000 (A i j))
include hn hA
/-- There is a number of arcs with which the weight in the star is reached. -/
theorem arcs_is (hp : noPos A n = true) {f t : Nat} (hf : f < n) (ht : t < n) (h : starF A n t f ≠ -1000000000000000) :
    cpw A n (arcs A n f t) t f = starF A n t f ∧ arcs A n f t ≤ 10 ∧ ∀ s, s < arcs A n f t → cpw A n s t f ≠ starF A n t f := by
  have hd := o_diag hn hA hp
  have e1 : o (starF A n t f) = obm (fun i j => o (A i j)) n n t f := by
    unfold starF
    rw [← clo_star hn hA hp ht hf, o_cbm hA n (by omega) t f ht hf]
  obtain ⟨s, hs, hle⟩ := opw_star (f := fun i j => o (A i j)) ht hf (by rw [← e1]; exact fun e => h (o_none.1 e))
  have hge := opw_le hd ht hf s
  have e2 := ole_anti hge hle
  rw [← o_cpw hA s (by omega) t f ht hf, ← e1] at e2
  have e3 := o_inj e2
  obtain ⟨h1, h2, h3⟩ := lv_ex (p := fun s => decide (cpw A n s t f = starF A n t f)) (n := 11) ⟨s, by omega, by simpa using e3⟩
  refine ⟨of_decide_eq_true h1, by unfold arcs; omega, fun s hs => ?_⟩
  have := h3 s hs
  simpa using this
end
section
variable {A : Nat → Nat → Int} {n : Nat} (hA : ∀ i j, i < n → j < n → Sm 1000001000000 (A i j))
include hA
/-- A heaviest path with more than no arcs goes on. -/
theorem nxt_is {t s x : Nat} (hs : s ≤ 10) (ht : t < n) (hx : x < n) (h : cpw A n (s + 1) t x ≠ -1000000000000000) :
    nxt A n t s x < n ∧ times (cpw A n s t (nxt A n t s x)) (A (nxt A n t s x) x) = cpw A n (s + 1) t x ∧ ∀ v, v < nxt A n t s x → times (cpw A n s t v) (A v x) ≠ cpw A n (s + 1) t x := by
  have hex : ∃ v, v < n ∧ stepB A n t s x v = true := by
    have e := o_cpw hA (s + 1) (by omega) t x ht hx
    rcases osum_att n (fun u => omul (opw (fun i j => o (A i j)) n s t u) (o (A u x))) with k | ⟨u, hu, k⟩
    · exact absurd (o_none.1 (e.trans k)) h
    · refine ⟨u, hu, ?_⟩
      unfold stepB
      rw [decide_eq_true_eq]
      refine o_inj ?_
      rw [o_times (cpw_sm hA s t u ht hu) (hA u x hu hx) (by omega) (by omega), o_cpw hA s (by omega) t u ht hu]
      exact (e.trans k).symm
  obtain ⟨h1, h2, h3⟩ := lv_ex hex
  refine ⟨h2, of_decide_eq_true h1, fun v hv => ?_⟩
  have := h3 v hv
  simpa [stepB] using this
theorem nxt_fin {t s x : Nat} (hs : s ≤ 10) (ht : t < n) (hx : x < n) (h : cpw A n (s + 1) t x ≠ -1000000000000000) :
    cpw A n s t (nxt A n t s x) ≠ -1000000000000000 ∧ A (nxt A n t s x) x ≠ -1000000000000000 := by
  obtain ⟨h1, h2, -⟩ := nxt_is hA hs ht hx h
  refine ⟨fun e => h ?_, fun e => h ?_⟩
  · rw [← h2, e, bot_times]
  · rw [← h2, e, times_bot]
/-- Along the path the rest stays a heaviest one. -/
theorem xs_inv {t s f : Nat} (hs : s ≤ 10) (ht : t < n) (hf : f < n) (h : cpw A n s t f ≠ -1000000000000000) (k : Nat) (hk : k ≤ s) :
    xs A n t s f k < n ∧ cpw A n (s - k) t (xs A n t s f k) ≠ -1000000000000000 := by
  induction k with
  | zero => exact ⟨hf, h⟩
  | succ k ih =>
    obtain ⟨h1, h2⟩ := ih (by omega)
    have e : s - k = s - 1 - k + 1 := by omega
    rw [e] at h2
    show nxt A n t (s - 1 - k) (xs A n t s f k) < n ∧ cpw A n (s - (k + 1)) t (nxt A n t (s - 1 - k) (xs A n t s f k)) ≠ _
    rw [show s - (k + 1) = s - 1 - k by omega]
    exact ⟨(nxt_is hA (by omega) ht h1 h2).1, (nxt_fin hA (by omega) ht h1 h2).1⟩
/-- What is left of the weight. -/
theorem xs_need {t s f : Nat} (hs : s ≤ 10) (ht : t < n) (hf : f < n) (h : cpw A n s t f ≠ -1000000000000000) (k : Nat) (hk : k < s) :
    cpw A n (s - (k + 1)) t (xs A n t s f (k + 1)) = cpw A n (s - k) t (xs A n t s f k) - A (xs A n t s f (k + 1)) (xs A n t s f k) := by
  obtain ⟨h1, h2⟩ := xs_inv hA hs ht hf h k (by omega)
  have e : s - k = s - 1 - k + 1 := by omega
  rw [e] at h2
  have h3 := (nxt_is hA (by omega) ht h1 h2).2.1
  have h4 := nxt_fin hA (by omega) ht h1 h2
  rw [show s - (k + 1) = s - 1 - k by omega, e]
  show cpw A n (s - 1 - k) t (nxt A n t (s - 1 - k) (xs A n t s f k)) = _ - A (nxt A n t (s - 1 - k) (xs A n t s f k)) _
  unfold times at h3
  rw [if_neg (by rintro (e | e); exact h4.1 e; exact h4.2 e)] at h3
  omega
theorem xs_end {t s f : Nat} (hs : s ≤ 10) (ht : t < n) (hf : f < n) (h : cpw A n s t f ≠ -1000000000000000) : xs A n t s f s = t := by
  obtain ⟨h1, h2⟩ := xs_inv hA hs ht hf h s (Nat.le_refl _)
  rw [Nat.sub_self] at h2
  have h2 : unit t (xs A n t s f s) ≠ -1000000000000000 := h2
  unfold unit at h2
  split at h2
  · next e => exact e.symm
  · exact absurd rfl h2
end
end M
end Go.Proofs.YthonlfjjgmmnpaaGreat

namespace Go.Proofs.YthonlfjjgmmnpaaGreat.V
open Go.RowKit

/-- The matrices P, n rows each, in a list of its own; each was made at a world of its own and has stayed since. -/
def Pws (w : World) (B : Nat) (v : Value) (m n : Nat) (P : Nat → List (List Int)) : Prop :=
  ∃ V : List Value, V.length = m ∧ w.ownsRow B 24 1 v m V ∧
    ∀ i, i < m → ∃ (wi : World) (lo : Nat) (b : Option Addr) (c : Nat), V.getD i (.slice none 0 0) = .slice b n c ∧ OwnM wi lo (.slice b n c) (P i) ∧ wi.heap.size ≤ w.heap.size ∧ Same lo wi.heap.size wi w ∧ ∀ k, v.ownBlock = some k → ¬(lo ≤ k ∧ k < wi.heap.size)

theorem OwnM.same {wi w : World} {lo : Nat} {v : Value} {R : List (List Int)} (h : OwnM wi lo v R) (hs : Same lo wi.heap.size wi w) : OwnM w lo v R :=
  h.keep hs
theorem Pws.below {w w' : World} {B : Nat} {v : Value} {m n : Nat} {P : Nat → List (List Int)} (h : Pws w B v m n P) (hb : Below w.heap.size w w') : Pws w' B v m n P := by
  obtain ⟨V, h1, h2, h3⟩ := h
  refine ⟨V, h1, ownsRow_keep h2 (fun k hv => hb.block k (own_lt h2 hv).2), fun i hi => ?_⟩
  obtain ⟨wi, lo, b, c, e, ho, hz, hs, hk⟩ := h3 i hi
  exact ⟨wi, lo, b, c, e, ho, Nat.le_trans hz hb.size, hs.below hb hz, hk⟩
/-- One of the matrices. -/
theorem Pws.at {w : World} {B : Nat} {a : Option Addr} {m n cap : Nat} {P : Nat → List (List Int)} (h : Pws w B (.slice a m cap) m n P) (i : Nat) (hi : i < m) :
    ∃ g b c, a = some ⟨g, 0, none⟩ ∧ w.cell? ⟨g, i, none⟩ = some (.slice b n c) ∧ Mat w b n (P i) := by
  obtain ⟨V, h1, h2, h3⟩ := h
  obtain ⟨a', c', hv, hc, hm, hg⟩ := own_form h2
  injection hv with e1 e2 e3
  subst e1 e3
  obtain ⟨g, rfl, hB, hlt⟩ := hg (by omega)
  obtain ⟨wi, lo, b, c, e, ho, hz, hs, hk⟩ := h3 i hi
  refine ⟨g, b, c, rfl, ?_, (ho.same hs).mat⟩
  rw [World.ownsRow.cellAt h2 i (by omega), ← e]
  simp [show i < V.length by omega]
theorem Pws.caps {w : World} {B : Nat} {a : Option Addr} {m n cap : Nat} {P : Nat → List (List Int)} (h : Pws w B (.slice a m cap) m n P) : m ≤ cap ∧ cap ≤ maxLen := by
  obtain ⟨V, h1, h2, _⟩ := h
  obtain ⟨a', c', hv, k1, k2, _⟩ := own_form h2
  injection hv with e1 e2 e3
  subst e3
  exact ⟨k1, k2⟩
theorem pws_lit1 (w : World) (B n : Nat) (hB : B ≤ w.heap.size) {b : Option Addr} {c : Nat} {M : List (List Int)} (ho : OwnM w B (.slice b n c) M) (P : Nat → List (List Int)) (hP : P 0 = M) :
    Pws (w.alloc (.cells #[.slice b n c] 24)) B (.slice (some ⟨w.heap.size, 0, none⟩) 1 1) 1 n P := by
  refine ⟨[.slice b n c], rfl, World.ownsRow_lit w #[.slice b n c] 1 hB (by decide) rfl, fun i hi => ?_⟩
  obtain rfl : i = 0 := by omega
  refine ⟨w, B, b, c, rfl, by rw [hP]; exact ho, (b_alloc w _).size, (Same.refl B w.heap.size w).below (b_alloc w _) (Nat.le_refl _), fun k hk => ?_⟩
  simp only [Value.ownBlock, Option.some.injEq] at hk
  omega
theorem infoM64 : (Tryz.prog.info? 24).map (fun i => (i.zero, i.size, i.bytes)) = some (some (.slice none 0 0), 1, 24) := by kernel_rfl

set_option maxRecDepth 100000 in
set_option maxHeartbeats 400000 in
theorem sNode (a : Option Addr) (n cap : Nat) (x : Int) (w : World) (hn : n ≤ 1000) : Calls Tryz.prog 69 #[.slice a n cap, .int .i64 x] w fun e w' => e = .returned (.bool (M.inN n x)) ∧ w = w' := by
  go_enter Tryz.func69, Tryz.ntmps69
  go_wp2_with fail
  refine (sIn _ _ _ _).mono ?_
  rintro e w' ⟨rfl, rfl⟩
  go_wp2
  go_ret
  exact ⟨retB (by unfold M.inN; rw [Bool.eq_iff_iff]; simp; omega), rfl⟩
theorem sNode_b (a : Option Addr) (n cap : Nat) (x : Int) (w : World) (b : Bool) (hb : M.inN n x = b) (hn : n ≤ 1000) : Calls Tryz.prog 69 #[.slice a n cap, .int .i64 x] w fun e w' => e = .returned (.bool b) ∧ w = w' := by
  subst hb; exact sNode a n cap x w hn
end Go.Proofs.YthonlfjjgmmnpaaGreat.V

namespace Go.Proofs.YthonlfjjgmmnpaaGreat.V
open Go.RowKit
set_option maxRecDepth 100000 in
set_option maxHeartbeats 4000000 in
theorem sComponents (a : Option Addr) (n cap : Nat) (R : List (List Int)) (w : World) (h : Sq w a n R) :
    Calls Tryz.prog 116 #[.slice a n cap] w fun e w' => ∃ b m c, e = .returned (.slice b m c) ∧ OwnM w' w.heap.size (.slice b m c) (M.compsL (M.ent R) n) ∧ Below w.heap.size w w' := by
  have HSq := Lib.hid h
  obtain ⟨n1, n2⟩ := h.2.2.2
  clear h
  go_enter Tryz.func116, Tryz.ntmps116
  go_wp2_with fail
  refine (sReach _ _ _ R _ HSq.out).mono ?_
  rintro e w1 ⟨tb, tc, rfl, ht, hb⟩
  have HT := Lib.hid ht
  have HB1 := Lib.hid hb
  obtain ⟨tg, -, rfl, -, -⟩ := ht.at 0 0 n1 n1
  clear ht hb
  go_wp2
  go_loopw [4, 5, 6, 7] (fun o i _ _ wr => ∃ (k : Nat) (b : Option Addr) (c : Nat), k ≤ n ∧ i = .int .i64 k ∧ o = .slice b (M.compsP (M.ent R) n k).length c ∧ Hid (OwnM wr w1.heap.size (.slice b (M.compsP (M.ent R) n k).length c) (M.compsP (M.ent R) n k)) ∧ Hid (Below w1.heap.size w1 wr)) (fun _ i _ _ _ => n - (intOf i).toNat)
  case atStart => exact ⟨0, _, 0, Nat.zero_le _, rfl, rfl, ownM_lit0 _ _ (Nat.le_refl _), b_alloc _ _⟩
  case round =>
    obtain ⟨k, b, c, hk, rfl, rfl, HO, HB⟩ := hrel
    obtain ⟨wo, rfl⟩ : ∃ x, x = wr := ⟨_, rfl⟩
    by_cases hlt : k < n
    · have hki : (k : Int) < (n : Int) := by omega
      have HNx := Lib.hid (M.compsP_next (M.ent R) n k)
      have HLn := Lib.hid (M.compsP_len (M.ent R) n k)
      go_wp2
      go_loopw [6, 7] (fun o i wr => ∃ (t : Nat) (b : Option Addr) (c : Nat), t ≤ n ∧ i = .int .i64 t ∧ o = .slice b (M.compP (M.ent R) n k t).length c ∧ Hid (Own wr wo.heap.size (.slice b (M.compP (M.ent R) n k t).length c) (M.compP (M.ent R) n k t)) ∧ Hid (Below wo.heap.size wo wr)) (fun _ i _ => n - (intOf i).toNat)
      case atStart => exact ⟨0, _, 0, Nat.zero_le _, rfl, rfl, own_lit0 _ _ (Nat.le_refl _), b_alloc _ _⟩
      case round =>
        obtain ⟨t, b2, c2, ht, rfl, rfl, HI, HBi⟩ := hrel
        by_cases htl : t < n
        · have hti : (t : Int) < (n : Int) := by omega
          have HTw := Lib.hid ((HT.out.below HB.out).below HBi.out)
          obtain ⟨g1, q1, e1, r1, r2⟩ := ((HT.out.below HB.out).below (HBi.out.mono (Nat.le_refl _))).at k t hlt htl
          injection e1 with e1
          injection e1 with e1
          subst e1
          obtain ⟨g1, q2, e1, r3, r4⟩ := ((HT.out.below HB.out).below (HBi.out.mono (Nat.le_refl _))).at t k htl hlt
          injection e1 with e1
          injection e1 with e1
          subst e1
          have hnx := M.compP_next (M.ent R) n k t
          have hrl : M.relB (M.ent R) n k t = (M.rchB (M.ent R) n k t && M.rchB (M.ent R) n t k) := rfl
          have hlen := M.compP_len (M.ent R) n k t
          obtain ⟨x, hx⟩ : ∃ x, x = M.rchB (M.ent R) n k t := ⟨_, rfl⟩
          obtain ⟨y, hy⟩ : ∃ y, y = M.rchB (M.ent R) n t k := ⟨_, rfl⟩
          rw [← hx] at r2 hrl
          rw [← hy] at r4 hrl
          rw [hrl] at hnx
          clear hx hy hrl HTw
          cases x with
          | false =>
            have HN : Hid (M.compP (M.ent R) n k (t + 1) = M.compP (M.ent R) n k t) := by show _ = _; rw [hnx]; simp
            clear hnx
            go_wp2
            go_roundw
            case rel => exact ⟨t + 1, b2, c2, by omega, by go_num, by rw [HN.out], by show Own _ _ _ _; rw [HN.out]; exact HI.out, HBi⟩
            case measure => simp [intOf]; omega
          | true =>
            cases y with
            | false =>
              have HN : Hid (M.compP (M.ent R) n k (t + 1) = M.compP (M.ent R) n k t) := by show _ = _; rw [hnx]; simp
              clear hnx
              go_wp2
              go_roundw
              case rel => exact ⟨t + 1, b2, c2, by omega, by go_num, by rw [HN.out], by show Own _ _ _ _; rw [HN.out]; exact HI.out, HBi⟩
              case measure => simp [intOf]; omega
            | true =>
              have HN : Hid (M.compP (M.ent R) n k (t + 1) = M.compP (M.ent R) n k t ++ [(t : Int)]) := by show _ = _; rw [hnx]; simp
              clear hnx
              generalize M.compP (M.ent R) n k t = l at *
              go_wp2_with (at_builtin; refine append1 _ rfl (.tmp 40) (.tmp 42) rfl wo.heap.size _ l (t : Int) _ rfl rfl HI.out rfl (by omega) HBi.out.size ?_)
              intro b4 c4 w4 hO4 hb4 _
              have HO4 := Lib.hid hO4
              have HB4 := Lib.hid (HBi.out.trans hb4)
              rw [← HN.out] at HO4
              clear hO4 hb4
              go_wp2
              go_roundw
              case rel => exact ⟨t + 1, b4, c4, by omega, by go_num, by rw [HN.out, List.length_append]; rfl, by show Own _ _ _ _; rw [HN.out, List.length_append]; rw [HN.out] at HO4; exact HO4.out, HB4⟩
              case measure => simp [intOf]; omega
        · obtain rfl : t = n := by omega
          have HO1 : Hid (Own wr wo.heap.size (.slice b2 (M.compL (M.ent R) t k).length c2) (M.compL (M.ent R) t k)) := HI
          have hsl : (Value.slice b2 (M.compP (M.ent R) t k t).length c2) = .slice b2 (M.compL (M.ent R) t k).length c2 := rfl
          rw [hsl]
          clear HI hsl
          obtain ⟨d, od, x, rfl, -, hx, cx⟩ := HO1.out.ints'.at 0 (M.compL_pos hlt)
          rw [Nat.add_zero] at cx
          have hrep := (M.rep_t (A := M.ent R) hlt).2.2
          rw [← hx] at hrep
          have HRp := Lib.hid hrep
          have hlen1 : (M.compL (M.ent R) t k).length ≤ 10 := by have := M.compP_len (M.ent R) t k t; unfold M.compL; omega
          have hlen0 := M.compL_pos (A := M.ent R) hlt
          clear hx hrep
          generalize M.compL (M.ent R) t k = l at *
          by_cases hr : x = (k : Int)
          · have HN : Hid (M.compsP (M.ent R) t (k + 1) = M.compsP (M.ent R) t k ++ [l]) := by show _ = _; rw [HNx.out, if_pos (by have := HRp.out; omega)]
            have hr2 : (x == (k : Int)) = true := by simp [hr]
            clear hr
            generalize M.compsP (M.ent R) t k = L at *
            go_wp2_with (at_builtin; refine appendRow wo _ rfl (.tmp 49) (.tmp 51) rfl w1.heap.size _ _ L l _ rfl rfl HO.out HBi.out HO1.out rfl (by have := HLn.out; omega) HB.out.size ?_)
            intro b4 c4 w4 hO4 hb4 _
            have HO4 := Lib.hid hO4
            have HB4 := Lib.hid ((HB.out.trans (HBi.out.mono HB.out.size)).trans hb4)
            clear hO4 hb4
            go_wp2
            go_roundw
            case rel => exact ⟨k + 1, b4, c4, by omega, by go_num, by rw [HN.out, List.length_append]; rfl, by show OwnM _ _ _ _; rw [HN.out, List.length_append]; exact HO4.out, HB4⟩
            case measure => simp [intOf]; omega
          · have HN : Hid (M.compsP (M.ent R) t (k + 1) = M.compsP (M.ent R) t k) := by show _ = _; rw [HNx.out, if_neg (by have := HRp.out; omega), List.append_nil]
            have hr2 : (x == (k : Int)) = false := by simpa using hr
            go_wp2
            go_roundw
            case rel => exact ⟨k + 1, b, c, by omega, by go_num, by rw [HN.out], by show OwnM _ _ _ _; rw [HN.out]; exact HO.out.below HBi.out, HB.out.trans (HBi.out.mono HB.out.size)⟩
            case measure => simp [intOf]; omega
    · obtain rfl : k = n := by omega
      go_wp2
      go_ret
      exact ⟨b, _, c, rfl, HO.out.mono HB1.out.size, HB1.out.trans (HB.out.mono HB1.out.size)⟩
end Go.Proofs.YthonlfjjgmmnpaaGreat.V

namespace Go.Proofs.YthonlfjjgmmnpaaGreat
namespace M
theorem up_sub (R : List (List Int)) (v : Nat) : ∀ i j, i < R.length → j < R.length → ent (mk R.length R.length (upF (ent R) R.length v)) i j = ent R i j ∨ ent (mk R.length R.length (upF (ent R) R.length v)) i j = -1000000000000000 := fun i j hi hj => by
  rw [ent_mk _ _ _ _ _ hi hj]
  unfold upF
  split
  · exact .inl rfl
  · exact .inr rfl
/-- No upstream mean is greater than the cycle mean. -/
theorem up_cmp {R : List (List Int)} {x : Int} (h : (upRes R x).2 = 0) (hc : (cycMeanRes R).2 = 0) :
    (cmpOf (upRes R x).1.1 (upRes R x).1.2 (cycMeanRes R).1.1 (cycMeanRes R).1.2).2 = 0 ∧ (cmpOf (upRes R x).1.1 (upRes R x).1.2 (cycMeanRes R).1.1 (cycMeanRes R).1.2).1 ≤ 0 := by
  obtain ⟨k1, k2, k3, k4⟩ := cyc_t hc
  obtain ⟨n1, n2, hA⟩ := sq_sm k1
  unfold upRes at h ⊢
  rw [if_pos k1] at h ⊢
  by_cases hx : inN R.length x = true
  · rw [if_pos hx] at h ⊢
    obtain ⟨g1, g2, g3, g4⟩ := cyc_t h
    rw [mk_length] at g2 g3 g4
    have hle := sub_le n2 hA (up_sub R x.toNat) g2
    rw [g4, k4]
    unfold cmpOf
    dsimp only
    rw [g3, k3, if_pos (by rfl)]
    refine ⟨rfl, ?_⟩
    show cmpZ _ _ ≤ 0
    unfold cmpZ
    split
    · omega
    · rw [if_neg (by omega)]; omega
  · rw [if_neg hx] at h; simp at h
/-- The upstream mean of a node of the best cycle is the cycle mean. -/
theorem up_best {R : List (List Int)} (hc : (cycMeanRes R).2 = 0) : upRes R ((bestCyc R).getD 0 0) = cycMeanRes R := by
  obtain ⟨k1, k2, k3, k4⟩ := cyc_t hc
  obtain ⟨n1, n2, hA⟩ := sq_sm k1
  obtain ⟨q1, q2, q3, q4⟩ := best_cyc k1 k2
  have hn : nodesB R.length (bestCyc R) = true ∧ aroundW R (bestCyc R) ≠ -1000000000000000 := by
    unfold cycB at q1
    rw [Bool.and_eq_true, Bool.and_eq_true, Bool.and_eq_true] at q1
    exact ⟨q1.1.1.2, of_decide_eq_true q1.2⟩
  obtain ⟨hn, hf⟩ := hn
  have hat := nodesB_at hn (k := 0) (by omega)
  have hlt := vx_lt hn (k := 0) (by omega)
  obtain ⟨c, hcv⟩ : ∃ c, c = vx (bestCyc R) 0 := ⟨_, rfl⟩
  have e0 : ((bestCyc R).getD 0 0).toNat = c := hcv.symm
  have hin : inN R.length ((bestCyc R).getD 0 0) = true := by
    unfold inN; rw [decide_eq_true hat.1, decide_eq_true hat.2]; rfl
  unfold upRes
  rw [if_pos k1, if_pos hin, e0]
  generalize bestCyc R = q at *
  have hvn : ∀ u, vx q (u % q.length) < R.length := fun u => vx_lt hn (Nat.mod_lt _ (by omega))
  have ho := list_owk (A := ent R) (fun i j hi hj => sm_wide (hA i j hi hj)) q3 (by omega) hn
  rw [← around_arW, o_fin hf] at ho
  have hcl : vx q (q.length % q.length) = vx q (0 % q.length) := by rw [Nat.mod_self, Nat.zero_mod]
  have harc := owk_arc (A := ent R) (v := fun u => vx q (u % q.length)) (s := q.length) (by rw [← ho]; simp)
  obtain ⟨e1, e2⟩ := sub_same (A := ent R) (A' := ent (mk R.length R.length (upF (ent R) R.length c))) n2 hA (up_sub R c) (v := fun u => vx q (u % q.length)) (s := q.length) (w := aroundW R q) q3 hcl (fun u _ => hvn u) ho.symm (by
    have hb := rat_back (n := aroundW R q) (d := (q.length : Int)) (by omega)
    have e1 : ratN (aroundW R q) q.length = (bestR (ent R) R.length).1 := congrArg Prod.fst q2
    have e2 : ratD (aroundW R q) q.length = (bestR (ent R) R.length).2 := congrArg Prod.snd q2
    rw [e1, e2] at hb
    rw [Int.mul_comm, ← hb]; ac_rfl) (fun u hu => by
    show ent (mk R.length R.length (upF (ent R) R.length c)) (vx q ((u + 1) % q.length)) (vx q (u % q.length)) = _
    rw [ent_mk _ _ _ _ _ (hvn _) (hvn _)]
    have hr : rchB (ent R) R.length (vx q ((u + 1) % q.length)) c = true := by
      refine rchB_t.2 ⟨q.length - (u + 1), fun t => vx q ((u + 1 + t) % q.length), rfl, ?_, fun t _ => hvn _, fun t ht => ?_⟩
      · show vx q ((u + 1 + (q.length - (u + 1))) % q.length) = c
        rw [show u + 1 + (q.length - (u + 1)) = q.length by omega, Nat.mod_self, hcv]
      · exact harc (u + 1 + t) (by omega)
    unfold upF
    rw [if_pos hr])
  have hup := up_val k1 c
  unfold cycMeanRes
  rw [sq_mk n1 n2 hup, mk_length, k1, e1, e2, k2]
/-- The nodes of a component reach each other. -/
theorem comp_rch {A : Nat → Nat → Int} {n : Nat} {l : List Int} (hl : l ∈ compsL A n) {i j : Nat} (hi : i < l.length) (hj : j < l.length) :
    ∃ x y : Nat, x < n ∧ y < n ∧ l.getD i 0 = x ∧ l.getD j 0 = y ∧ rchB A n x y = true ∧ rchB A n y x = true := by
  obtain ⟨v, hv, -, rfl⟩ := mem_compsP.1 hl
  obtain ⟨x, hx, rx, ex⟩ := compL_at hi
  obtain ⟨y, hy, ry, ey⟩ := compL_at hj
  obtain ⟨a1, a2⟩ := relB_t.1 rx
  obtain ⟨b1, b2⟩ := relB_t.1 ry
  exact ⟨x, y, hx, hy, ex, ey, rchB_t.2 (rch_trans a2 b1), rchB_t.2 (rch_trans b2 a1)⟩
end M
end Go.Proofs.YthonlfjjgmmnpaaGreat

namespace Go.Proofs.YthonlfjjgmmnpaaGreat
namespace M
theorem filter_ids (L : List (List Int)) (p : List Int → Bool) : ((List.range L.length).filter fun i => p (L.getD i [])).map (fun i => L.getD i []) = L.filter p := by
  have h : (List.range L.length).map (fun i => L.getD i []) = L := by
    apply List.ext_getElem
    · simp
    · intro k k1 k2
      simp only [List.getElem_map, List.getElem_range]
      rw [List.getD_eq_getElem?_getD, List.getElem?_eq_getElem k2, Option.getD_some]
  conv => rhs; rw [← h]
  rw [List.filter_map]
  rfl
/-- The chosen places among the first k. -/
def idsK (L : List (List Int)) (p : List Int → Bool) (k : Nat) : List Nat := (List.range k).filter fun i => p (L.getD i [])
theorem idsK_next (L : List (List Int)) (p : List Int → Bool) (k : Nat) : idsK L p (k + 1) = idsK L p k ++ (if p (L.getD k []) then [k] else []) := by
  unfold idsK
  rw [List.range_succ, List.filter_append]
  congr 1
  by_cases h : p (L.getD k []) = true
  · rw [if_pos h]; rw [List.getD_eq_getElem?_getD] at h; simp [h]
  · rw [if_neg h]; rw [List.getD_eq_getElem?_getD] at h; simp [h]
theorem idsK_len (L : List (List Int)) (p : List Int → Bool) (k : Nat) : (idsK L p k).length ≤ k := by
  unfold idsK
  exact Nat.le_trans (List.length_filter_le _ _) (by simp)
theorem idsK_lt {L : List (List Int)} {p : List Int → Bool} {k i : Nat} (h : i ∈ idsK L p k) : i < k := List.mem_range.1 (List.mem_filter.1 h).1
theorem idsK_up (L : List (List Int)) (p : List Int → Bool) (k : Nat) : (idsK L p k).Pairwise (fun x y => x < y) := List.Pairwise.filter _ List.pairwise_lt_range
end M
namespace V
open Go.RowKit
theorem own_move {w w' : World} {B B' : Nat} {rv : Value} {l : List Int} (h : Own w B rv l) (hk : ∀ k, rv.ownBlock = some k → w'.heap[k]? = w.heap[k]? ∧ B' ≤ k) : Own w' B' rv l := by
  obtain ⟨h1, h2⟩ := h
  rcases h2 with h2 | ⟨g, cap, cur, e, hB, hh, r⟩
  · exact ⟨h1, .inl h2⟩
  · obtain ⟨k1, k2⟩ := hk g (by rw [e]; rfl)
    exact ⟨h1, .inr ⟨g, cap, cur, e, k2, by rw [k1]; exact hh, r⟩⟩
theorem getD_map_nat {α : Type} (f : Nat → α) (ids : List Nat) (d : α) (i : Nat) (hi : i < ids.length) : (ids.map f).getD i d = f ids[i] := by
  rw [List.getD_eq_getElem?_getD, List.getElem?_map, List.getElem?_eq_getElem hi]
  rfl
theorem OwnV.pick {w w' : World} {B B' : Nat} {v v' : Value} {R : List (List Int)} {V : List Value} (h : OwnV w B v R V) (ids : List Nat) (hid : ids.Pairwise (fun x y => x < y)) (hlt : ∀ i, i ∈ ids → i < R.length)
    (ho : w'.ownsRow B' 28 1 v' ids.length (ids.map fun i => V.getD i (.slice none 0 0)))
    (hk : ∀ i k, i < R.length → (V.getD i (.slice none 0 0)).ownBlock = some k → w'.heap[k]? = w.heap[k]? ∧ B' ≤ k ∧ v'.ownBlock ≠ some k) :
    OwnV w' B' v' (ids.map fun i => R.getD i []) (ids.map fun i => V.getD i (.slice none 0 0)) := by
  obtain ⟨h1, h2, h3, h4, h5⟩ := h
  have hl : (ids.map fun i => R.getD i []).length = ids.length := by simp
  refine ⟨by simp, by rw [hl]; exact ho, fun i hi => ?_, fun i hi k e => ?_, fun i j hi hj hne k e => ?_⟩
  · rw [hl] at hi
    rw [getD_map_nat _ _ _ _ hi, getD_map_nat _ _ _ _ hi]
    have hm := hlt _ (List.getElem_mem hi)
    exact own_move (h3 _ hm) fun k e => ⟨(hk _ k hm e).1, (hk _ k hm e).2.1⟩
  · rw [hl] at hi
    rw [getD_map_nat _ _ _ _ hi] at e
    exact (hk _ k (hlt _ (List.getElem_mem hi)) e).2.2
  · rw [hl] at hi hj
    rw [getD_map_nat _ _ _ _ hi] at e
    rw [getD_map_nat _ _ _ _ hj]
    refine h5 _ _ (hlt _ (List.getElem_mem hi)) (hlt _ (List.getElem_mem hj)) (fun q => ?_) k e
    rcases Nat.lt_or_gt_of_ne hne with hij | hij
    · have := List.pairwise_iff_getElem.1 hid i j hi hj hij; omega
    · have := List.pairwise_iff_getElem.1 hid j i hj hi hij; omega
theorem OwnV.keep {w w' : World} {B : Nat} {v : Value} {R : List (List Int)} {V : List Value} (h : OwnV w B v R V) (hk : ∀ k, B ≤ k → k < w.heap.size → w'.heap[k]? = w.heap[k]?) : OwnV w' B v R V := by
  obtain ⟨h1, h2, h3, h4, h5⟩ := h
  exact ⟨h1, ownsRow_keep h2 (fun k hv => hk k (own_lt h2 hv).1 (own_lt h2 hv).2), fun i hi => (h3 i hi).keep hk, h4, h5⟩
theorem OwnV.below {w w' : World} {B : Nat} {v : Value} {R : List (List Int)} {V : List Value} (h : OwnV w B v R V) (hb : Below w.heap.size w w') : OwnV w' B v R V := h.keep (fun k _ h2 => hb.block k h2)
theorem row_lit0 (w : World) (B : Nat) (hB : B ≤ w.heap.size) : (w.alloc (.cells #[] 28)).ownsRow B 28 1 (.slice (some ⟨w.heap.size, 0, none⟩) 0 0) 0 [] := by
  obtain ⟨V, h1, h2, -⟩ := ownM_lit0 w B hB
  obtain rfl : V = [] := List.eq_nil_of_length_eq_zero h1
  exact h2
/-- One row of an owned matrix, with its value. -/
theorem OwnV.cell {w : World} {B : Nat} {a : Option Addr} {n cap : Nat} {R : List (List Int)} {V : List Value} (h : OwnV w B (.slice a n cap) R V) (i : Nat) (hi : i < n) :
    ∃ g ra rc, a = some ⟨g, 0, none⟩ ∧ V.getD i (.slice none 0 0) = .slice ra (R.getD i []).length rc ∧ w.cell? ⟨g, i, none⟩ = some (.slice ra (R.getD i []).length rc) ∧ Ints .i64 w ra (R.getD i []).length (R.getD i []) := by
  obtain ⟨h1, h2, h3, h4, h5⟩ := h
  obtain ⟨a', c', hv, hc, hm, hg⟩ := own_form h2
  injection hv with e1 e2 e3
  subst e1 e2 e3
  obtain ⟨g, rfl, hB, hlt⟩ := hg (by omega)
  obtain ⟨ra, rc, hv, hI⟩ := (h3 i hi).ints
  refine ⟨g, ra, rc, rfl, hv, ?_, hI⟩
  have := World.ownsRow.cellAt h2 i (by omega)
  rw [this, ← hv]
  simp [h1, hi]
theorem appendVal (w : World) {ops : Array Oper} {rest : List Oper} {o : Oper} {a : Act} {Q : Exit → Act → World → Prop} (hgd : o.guard = none) (s x : Operand)
    (ho : o.op = .call { callee := .builtin .append, args := #[s, x], argTypes := #[24, 24] }) (B : Nat) (v : Value) (V : List Value) (ra : Option Addr) (L rc n : Nat) (hs : a.eval s = v) (hown : w.ownsRow B 28 1 v n V)
    (hx : a.eval x = .slice (some ⟨w.heap.size, 0, none⟩) 1 1) (hlen : n ≤ 2000000) (hB : B ≤ w.heap.size)
    (h : ∀ b' c' w', w'.ownsRow B 28 1 (.slice b' (n + 1) c') (n + 1) (V ++ [.slice ra L rc]) → Below B w w' → (∀ k, k < w.heap.size → v.ownBlock ≠ some k → w'.heap[k]? = w.heap[k]?) → wpList Tryz.prog ops Q rest (a.put o.dst (.slice b' (n + 1) c')) w') :
    wpList Tryz.prog ops Q (o :: rest) a (w.alloc (.cells #[.slice ra L rc] 28)) := by
  obtain ⟨i0, hi, hz0, hz1, hz2⟩ := info_parts infoS64
  have hown2 : (w.alloc (.cells #[.slice ra L rc] 28)).ownsRow B 28 1 v n V := World.ownsRow.alloc hown _
  have hVl : V.length = n := by have := hown.1; omega
  refine wpList_append_own_at (w := w.alloc (.cells #[.slice ra L rc] 28)) hgd s x 24 ho B 28 i0 (.slice none 0 0) 1 24 Tryz.underlying24 hi hz0 hz1 hz2 rfl (by decide) v _ _ hs hown2 ⟨w.heap.size, 0, none⟩ 1 1 [.slice ra L rc] hx rfl (cell_one_new _ _ _) ?c2 ?c3 ?c4 ?c5 ?_
  case c2 => intro u hu; simp at hu; subst hu; rfl
  case c3 => unfold maxLen; omega
  case c4 => omega
  case c5 => simp; omega
  · intro v' w' hown' hgrow hz hvb
    have ho' : w'.ownsRow B 28 1 v' (n + 1) (V ++ [.slice ra L rc]) := by simpa using hown'
    obtain ⟨b', c', hv', _⟩ := own_form ho'
    subst hv'
    refine h b' c' w' ho' (((Below.refl B w).alloc hB _).grown hgrow (by simp; omega) (fun k hk => (own_lt hown hk).1)) (fun k hk hne => ?_)
    obtain ⟨g1, g2, g3, g4, g5⟩ := hgrow
    rw [g5 k (by simp; omega) (fun e => hne e.symm), Below.heap_alloc _ _ _ hk]
end V
end Go.Proofs.YthonlfjjgmmnpaaGreat
