/- Texts laid together: Ndm, Rbt, Hv3, Scp, Upp, Pck, Cmc, Col, Cle, Evq, Evp, Evr, OpenM. -/
import Derived.Test.YtcofjjipjcekjaaGreatQy15
import Derived.Test.YtcofjjipjcekjaaGreatQy2
import Derived.Test.YtcofjjipjcekjaaGreatQy8
import Derived.Test.YtcofjjipjcekjaaGreatQy11
import Derived.Test.YtcofjjipjcekjaaGreatQy5
import Derived.Test.YtcofjjipjcekjaaGreatRows
import Derived.Test.YtcofjjipjcekjaaGreatQy1
import Derived.Test.YtcofjjipjcekjaaGreatQy9
import Derived.WalkKit
import Derived.ProofKit
import Derived.WalkSmall
import Derived.Lib.Hide
import Derived.Deep.OwnRows
import Derived.Maps.AppendAt
import Derived.Test.YtcofjjipjcekjaaGreatQy12
import Derived.Test.YtcofjjipjcekjaaGreatQy10
import Derived.Deep.QuietTactic
import Derived.BigQuiet
import Derived.BigRegion
import Derived.Deep.Draws
import Derived.Deep.Onto
import Derived.Deep.Matrix
set_option linter.unusedSimpArgs false
set_option linter.unusedVariables false
set_option linter.unusedSectionVars false
namespace Go.Proofs.YtcofjjipjcekjaaGreat
namespace M
/-- The first nodes of the first k arcs, each once. -/
def ndK (R : List (List Int)) : Nat → List Int
  | 0 => []
  | k + 1 => if hasB (ndK R k) (((arcsL R).getD k []).getD 0 0) then ndK R k else ndK R k ++ [((arcsL R).getD k []).getD 0 0]
theorem ndK_len (R : List (List Int)) (k : Nat) : (ndK R k).length ≤ k := by
  induction k with
  | zero => exact Nat.le_refl _
  | succ k ih =>
    unfold ndK
    split
    · omega
    · rw [List.length_append]; simp; omega
/-- The arcs are sorted by their first nodes. -/
theorem arcs_sorted (R : List (List Int)) : (arcsL R).Pairwise (fun x y => x.getD 0 0 ≤ y.getD 0 0) := by
  have hrow : ∀ j k, (∀ l, l ∈ arcRow R j k → l.getD 0 0 = (j : Int)) := fun j k l hl => by
    unfold arcRow at hl
    obtain ⟨i, -, hi⟩ := List.mem_flatMap.1 hl
    split at hi
    · rw [List.mem_singleton.1 hi]; rfl
    · exact absurd hi (List.not_mem_nil)
  have key : ∀ k, (arcsP R k).Pairwise (fun x y => x.getD 0 0 ≤ y.getD 0 0) ∧ ∀ l, l ∈ arcsP R k → l.getD 0 0 < (k : Int) := fun k => by
    induction k with
    | zero => exact ⟨by simp [arcsP], fun l h => by simp [arcsP] at h⟩
    | succ k ih =>
      rw [arcsP_next]
      refine ⟨List.pairwise_append.2 ⟨ih.1, ?_, fun x hx y hy => ?_⟩, fun l hl => ?_⟩
      · refine List.pairwise_iff_getElem.2 fun i j hi hj _ => ?_
        rw [hrow k R.length _ (List.getElem_mem hi), hrow k R.length _ (List.getElem_mem hj)]
        exact Int.le_refl _
      · have := ih.2 x hx; rw [hrow k R.length y hy]; omega
      · rcases List.mem_append.1 hl with h | h
        · have := ih.2 l h; omega
        · rw [hrow k R.length l h]; omega
  exact (key R.length).1
theorem getD_at {L : List (List Int)} {k : Nat} (h : k < L.length) : L.getD k [] = L[k] := by
  rw [List.getD_eq_getElem?_getD, List.getElem?_eq_getElem h, Option.getD_some]
theorem ndK_t (R : List (List Int)) (k : Nat) (hk : k ≤ (arcsL R).length) : (ndK R k).Pairwise (fun x y => x < y) ∧ ∀ x, x ∈ ndK R k ↔ ∃ j, j < k ∧ ((arcsL R).getD j []).getD 0 0 = x := by
  induction k with
  | zero => exact ⟨List.Pairwise.nil, fun x => ⟨fun h => absurd h (List.not_mem_nil), fun ⟨j, hj, _⟩ => absurd hj (Nat.not_lt_zero j)⟩⟩
  | succ k ih =>
    obtain ⟨i1, i2⟩ := ih (by omega)
    have hle : ∀ x, x ∈ ndK R k → x ≤ ((arcsL R).getD k []).getD 0 0 := fun x hx => by
      obtain ⟨j, hj, e⟩ := (i2 x).1 hx
      have := List.pairwise_iff_getElem.1 (arcs_sorted R) j k (by omega) (by omega) hj
      rw [← getD_at (by omega), ← getD_at (by omega), e] at this
      exact this
    unfold ndK
    by_cases h : hasB (ndK R k) (((arcsL R).getD k []).getD 0 0) = true
    · rw [if_pos h]
      refine ⟨i1, fun x => (i2 x).trans ⟨fun ⟨j, hj, e⟩ => ⟨j, by omega, e⟩, fun ⟨j, hj, e⟩ => ?_⟩⟩
      by_cases hjk : j < k
      · exact ⟨j, hjk, e⟩
      · obtain rfl : j = k := by omega
        rw [← e]
        exact (i2 _).1 (hasB_iff.1 h)
    · rw [if_neg h]
      have hn := fun hm => h (hasB_iff.2 hm)
      refine ⟨List.pairwise_append.2 ⟨i1, List.pairwise_singleton .., fun x hx y hy => ?_⟩, fun x => ?_⟩
      · rw [List.mem_singleton.1 hy]
        have h1 := hle x hx
        have h2 : x ≠ ((arcsL R).getD k []).getD 0 0 := fun e => hn (e ▸ hx)
        omega
      · rw [List.mem_append, i2 x, List.mem_singleton]
        constructor
        · rintro (⟨j, hj, e⟩ | e)
          · exact ⟨j, by omega, e⟩
          · exact ⟨k, by omega, e.symm⟩
        · rintro ⟨j, hj, e⟩
          by_cases hjk : j < k
          · exact .inl ⟨j, hjk, e⟩
          · obtain rfl : j = k := by omega
            exact .inr e.symm
theorem ndK_end (R : List (List Int)) : ndK R (arcsL R).length = nodesL R := by
  obtain ⟨h1, h2⟩ := ndK_t R _ (Nat.le_refl _)
  refine uniq_lt h1 (nodesL_lt R) fun x => ?_
  rw [h2, mem_nodesL]
  unfold crN
  constructor
  · rintro ⟨j, hj, e⟩
    obtain ⟨f, t, hf, ht, hc, he⟩ := arcsL_at hj
    rw [he] at e
    exact ⟨f, hf, List.any_eq_true.2 ⟨t, List.mem_range.2 ht, hc⟩, e.symm⟩
  · rintro ⟨f, hf, hc, rfl⟩
    obtain ⟨t, ht, hc⟩ := List.any_eq_true.1 hc
    obtain ⟨k, hk, e⟩ := List.mem_iff_getElem.1 (mem_arcsL.2 ⟨f, t, hf, List.mem_range.1 ht, hc, rfl⟩ : [(f : Int), (t : Int)] ∈ arcsL R)
    exact ⟨k, hk, by rw [getD_at hk, e]; rfl⟩
theorem nodesRes_len (R : List (List Int)) : (nodesRes R).1.length ≤ 10 := by
  unfold nodesRes
  by_cases h : crCode R = 0
  · rw [if_pos h]
    obtain ⟨-, n2, -⟩ := sq_sm (cr_code h).1
    exact Nat.le_trans (nodesL_len R) n2
  · rw [if_neg h]; simp
end M
namespace V
set_option maxRecDepth 100000
open Go.RowKit
end V
end Go.Proofs.YtcofjjipjcekjaaGreat

namespace Go.Proofs.YtcofjjipjcekjaaGreat
namespace M
variable {A : Nat → Nat → Int} {n : Nat}
/-- After r rounds. -/
def RI (A : Nat → Nat → Int) (n v r : Nat) (S : Nat → Bool) : Prop := (∀ i, S i = true → Rch A n v i) ∧ ∀ i, RcN A n v r i → S i = true
def MI (A : Nat → Nat → Int) (n v r i : Nat) (S : Nat → Bool) : Prop := RI A n v r S ∧ ∀ j, j < i → RcN A n v (r + 1) j → S j = true
def KI (A : Nat → Nat → Int) (n v r i k : Nat) (S : Nat → Bool) : Prop := MI A n v r i S ∧ ∀ j, j < k → RcN A n v r j → A i j ≠ -1000000000000000 → S i = true
theorem ri_start {v : Nat} (hv : v < n) : RI A n v 0 (upd (fun _ => false) v) :=
  ⟨fun i h => by unfold upd at h; simp at h; subst h; exact rch_self hv, fun i h => by have := rcn_zero h; subst this; unfold upd; simp⟩
theorem ki_set {v r i k : Nat} {S : Nat → Bool} (hi : i < n) (h : KI A n v r i k S) (hs : S k = true) (ha : A i k ≠ -1000000000000000) : KI A n v r i (k + 1) (upd S i) := by
  obtain ⟨⟨⟨h1, h2⟩, h3⟩, h4⟩ := h
  have hm : ∀ j, S j = true → upd S i j = true := fun j hj => by unfold upd; rw [hj, Bool.or_true]
  refine ⟨⟨⟨fun j hj => ?_, fun j hj => hm j (h2 j hj)⟩, fun j hj hr => hm j (h3 j hj hr)⟩, fun j _ _ _ => by unfold upd; simp⟩
  unfold upd at hj
  rw [Bool.or_eq_true, decide_eq_true_eq] at hj
  rcases hj with hj | hj
  · subst hj; exact rch_step (h1 k hs) hi ha
  · exact h1 j hj
theorem ki_skip {v r i k : Nat} {S : Nat → Bool} (h : KI A n v r i k S) (hs : S k = false ∨ A i k = -1000000000000000) : KI A n v r i (k + 1) S := by
  refine ⟨h.1, fun j hj hr ha => ?_⟩
  by_cases e : j = k
  · subst e
    rcases hs with hs | hs
    · rw [h.1.1.2 j hr] at hs; cases hs
    · exact absurd hs ha
  · exact h.2 j (by omega) hr ha
theorem ki_end {v r i : Nat} {S : Nat → Bool} (h : KI A n v r i n S) : MI A n v r (i + 1) S := by
  refine ⟨h.1.1, fun j hj hr => ?_⟩
  by_cases e : j = i
  · subst e
    rcases rcn_next hr with q | ⟨k, hk, q1, -, q2⟩
    · exact h.1.1.2 j q
    · exact h.2 k hk q1 q2
  · exact h.1.2 j (by omega) hr
theorem mi_end {v r : Nat} {S : Nat → Bool} (h : MI A n v r n S) : RI A n v (r + 1) S := ⟨h.1.1, fun i hr => h.2 i (Rch.of hr).lt.2 hr⟩
end M
namespace V
set_option maxRecDepth 100000
open Go.RowKit
theorem infoB1 : (Tryz.prog.info? 4).map (fun i => (i.zero, i.size, i.bytes)) = some (some (.bool false), 1, 1) := by kernel_rfl
theorem rowIs_lt {w : World} {q n : Nat} {t : TypeId} {f : Nat → Value} (h : w.rowIs q t n f) : q < w.heap.size := by
  obtain ⟨c, hb, -⟩ := h
  exact (Array.getElem?_eq_some_iff.1 hb).1
end V
end Go.Proofs.YtcofjjipjcekjaaGreat

namespace Go.Proofs.YtcofjjipjcekjaaGreat.V
open Go.RowKit

/-- The matrices P, n rows each, in a list of its own; each was made at a world of its own and has stayed since. -/
def Pws (w : World) (B : Nat) (v : Value) (m n : Nat) (P : Nat → List (List Int)) : Prop :=
  ∃ V : List Value, V.length = m ∧ w.ownsRow B 24 1 v m V ∧
    ∀ i, i < m → ∃ (wi : World) (lo : Nat) (b : Option Addr) (c : Nat), V.getD i (.slice none 0 0) = .slice b n c ∧ OwnM wi lo (.slice b n c) (P i) ∧ wi.heap.size ≤ w.heap.size ∧ Same lo wi.heap.size wi w ∧ ∀ k, v.ownBlock = some k → ¬(lo ≤ k ∧ k < wi.heap.size)

theorem OwnM.same {wi w : World} {lo : Nat} {v : Value} {R : List (List Int)} (h : OwnM wi lo v R) (hs : Same lo wi.heap.size wi w) : OwnM w lo v R :=
  h.keep hs
theorem Pws.below {w w' : World} {B : Nat} {v : Value} {m n : Nat} {P : Nat → List (List Int)} (h : Pws w B v m n P) (hb : Below w.heap.size w w') : Pws w' B v m n P := by
  obtain ⟨V, h1, h2, h3⟩ := h
  refine ⟨V, h1, ownsRow_keep h2 (fun k hv => hb.block k (own_lt h2 hv).2), fun i hi => ?_⟩
  obtain ⟨wi, lo, b, c, e, ho, hz, hs, hk⟩ := h3 i hi
  exact ⟨wi, lo, b, c, e, ho, Nat.le_trans hz hb.size, hs.below hb hz, hk⟩
/-- One of the matrices. -/
theorem Pws.at {w : World} {B : Nat} {a : Option Addr} {m n cap : Nat} {P : Nat → List (List Int)} (h : Pws w B (.slice a m cap) m n P) (i : Nat) (hi : i < m) :
    ∃ g b c, a = some ⟨g, 0, none⟩ ∧ w.cell? ⟨g, i, none⟩ = some (.slice b n c) ∧ Mat w b n (P i) := by
  obtain ⟨V, h1, h2, h3⟩ := h
  obtain ⟨a', c', hv, hc, hm, hg⟩ := own_form h2
  injection hv with e1 e2 e3
  subst e1 e3
  obtain ⟨g, rfl, hB, hlt⟩ := hg (by omega)
  obtain ⟨wi, lo, b, c, e, ho, hz, hs, hk⟩ := h3 i hi
  refine ⟨g, b, c, rfl, ?_, (ho.same hs).mat⟩
  rw [World.ownsRow.cellAt h2 i (by omega), ← e]
  simp [show i < V.length by omega]
theorem Pws.caps {w : World} {B : Nat} {a : Option Addr} {m n cap : Nat} {P : Nat → List (List Int)} (h : Pws w B (.slice a m cap) m n P) : m ≤ cap ∧ cap ≤ maxLen := by
  obtain ⟨V, h1, h2, _⟩ := h
  obtain ⟨a', c', hv, k1, k2, _⟩ := own_form h2
  injection hv with e1 e2 e3
  subst e3
  exact ⟨k1, k2⟩
theorem pws_lit1 (w : World) (B n : Nat) (hB : B ≤ w.heap.size) {b : Option Addr} {c : Nat} {M : List (List Int)} (ho : OwnM w B (.slice b n c) M) (P : Nat → List (List Int)) (hP : P 0 = M) :
    Pws (w.alloc (.cells #[.slice b n c] 24)) B (.slice (some ⟨w.heap.size, 0, none⟩) 1 1) 1 n P := by
  refine ⟨[.slice b n c], rfl, World.ownsRow_lit w #[.slice b n c] 1 hB (by decide) rfl, fun i hi => ?_⟩
  obtain rfl : i = 0 := by omega
  refine ⟨w, B, b, c, rfl, by rw [hP]; exact ho, (b_alloc w _).size, (Same.refl B w.heap.size w).below (b_alloc w _) (Nat.le_refl _), fun k hk => ?_⟩
  simp only [Value.ownBlock, Option.some.injEq] at hk
  omega
theorem infoM64 : (Tryz.prog.info? 24).map (fun i => (i.zero, i.size, i.bytes)) = some (some (.slice none 0 0), 1, 24) := by kernel_rfl

end Go.Proofs.YtcofjjipjcekjaaGreat.V

namespace Go.Proofs.YtcofjjipjcekjaaGreat.V
open Go.RowKit
end Go.Proofs.YtcofjjipjcekjaaGreat.V

namespace Go.Proofs.YtcofjjipjcekjaaGreat
namespace M
theorem up_sub (R : List (List Int)) (v : Nat) : ∀ i j, i < R.length → j < R.length → ent (mk R.length R.length (upF (ent R) R.length v)) i j = ent R i j ∨ ent (mk R.length R.length (upF (ent R) R.length v)) i j = -1000000000000000 := fun i j hi hj => by
  rw [ent_mk _ _ _ _ _ hi hj]
  unfold upF
  split
  · exact .inl rfl
  · exact .inr rfl
/-- No upstream mean is greater than the cycle mean. -/
theorem up_cmp {R : List (List Int)} {x : Int} (h : (upRes R x).2 = 0) (hc : (cycMeanRes R).2 = 0) :
    (cmpOf (upRes R x).1.1 (upRes R x).1.2 (cycMeanRes R).1.1 (cycMeanRes R).1.2).2 = 0 ∧ (cmpOf (upRes R x).1.1 (upRes R x).1.2 (cycMeanRes R).1.1 (cycMeanRes R).1.2).1 ≤ 0 := by
  obtain ⟨k1, k2, k3, k4⟩ := cyc_t hc
  obtain ⟨n1, n2, hA⟩ := sq_sm k1
  unfold upRes at h ⊢
  rw [if_pos k1] at h ⊢
  by_cases hx : inN R.length x = true
  · rw [if_pos hx] at h ⊢
    obtain ⟨g1, g2, g3, g4⟩ := cyc_t h
    rw [mk_length] at g2 g3 g4
    have hle := sub_le n2 hA (up_sub R x.toNat) g2
    rw [g4, k4]
    unfold cmpOf
    dsimp only
    rw [g3, k3, if_pos (by rfl)]
    refine ⟨rfl, ?_⟩
    show cmpZ _ _ ≤ 0
    unfold cmpZ
    split
    · omega
    · rw [if_neg (by omega)]; omega
  · rw [if_neg hx] at h; simp at h
/-- The upstream mean of a node of the best cycle is the cycle mean. -/
theorem up_best {R : List (List Int)} (hc : (cycMeanRes R).2 = 0) : upRes R ((bestCyc R).getD 0 0) = cycMeanRes R := by
  obtain ⟨k1, k2, k3, k4⟩ := cyc_t hc
  obtain ⟨n1, n2, hA⟩ := sq_sm k1
  obtain ⟨q1, q2, q3, q4⟩ := best_cyc k1 k2
  have hn : nodesB R.length (bestCyc R) = true ∧ aroundW R (bestCyc R) ≠ -1000000000000000 := by
    unfold cycB at q1
    rw [Bool.and_eq_true, Bool.and_eq_true, Bool.and_eq_true] at q1
    exact ⟨q1.1.1.2, of_decide_eq_true q1.2⟩
  obtain ⟨hn, hf⟩ := hn
  have hat := nodesB_at hn (k := 0) (by omega)
  have hlt := vx_lt hn (k := 0) (by omega)
  obtain ⟨c, hcv⟩ : ∃ c, c = vx (bestCyc R) 0 := ⟨_, rfl⟩
  have e0 : ((bestCyc R).getD 0 0).toNat = c := hcv.symm
  have hin : inN R.length ((bestCyc R).getD 0 0) = true := by
    unfold inN; rw [decide_eq_true hat.1, decide_eq_true hat.2]; rfl
  unfold upRes
  rw [if_pos k1, if_pos hin, e0]
  generalize bestCyc R = q at *
  have hvn : ∀ u, vx q (u % q.length) < R.length := fun u => vx_lt hn (Nat.mod_lt _ (by omega))
  have ho := list_owk (A := ent R) (fun i j hi hj => sm_wide (hA i j hi hj)) q3 (by omega) hn
  rw [← around_arW, o_fin hf] at ho
  have hcl : vx q (q.length % q.length) = vx q (0 % q.length) := by rw [Nat.mod_self, Nat.zero_mod]
  have harc := owk_arc (A := ent R) (v := fun u => vx q (u % q.length)) (s := q.length) (by rw [← ho]; simp)
  obtain ⟨e1, e2⟩ := sub_same (A := ent R) (A' := ent (mk R.length R.length (upF (ent R) R.length c))) n2 hA (up_sub R c) (v := fun u => vx q (u % q.length)) (s := q.length) (w := aroundW R q) q3 hcl (fun u _ => hvn u) ho.symm (by
    have hb := rat_back (n := aroundW R q) (d := (q.length : Int)) (by omega)
    have e1 : ratN (aroundW R q) q.length = (bestR (ent R) R.length).1 := congrArg Prod.fst q2
    have e2 : ratD (aroundW R q) q.length = (bestR (ent R) R.length).2 := congrArg Prod.snd q2
    rw [e1, e2] at hb
    rw [Int.mul_comm, ← hb]; ac_rfl) (fun u hu => by
    show ent (mk R.length R.length (upF (ent R) R.length c)) (vx q ((u + 1) % q.length)) (vx q (u % q.length)) = _
    rw [ent_mk _ _ _ _ _ (hvn _) (hvn _)]
    have hr : rchB (ent R) R.length (vx q ((u + 1) % q.length)) c = true := by
      refine rchB_t.2 ⟨q.length - (u + 1), fun t => vx q ((u + 1 + t) % q.length), rfl, ?_, fun t _ => hvn _, fun t ht => ?_⟩
      · show vx q ((u + 1 + (q.length - (u + 1))) % q.length) = c
        rw [show u + 1 + (q.length - (u + 1)) = q.length by omega, Nat.mod_self, hcv]
      · exact harc (u + 1 + t) (by omega)
    unfold upF
    rw [if_pos hr])
  have hup := up_val k1 c
  unfold cycMeanRes
  rw [sq_mk n1 n2 hup, mk_length, k1, e1, e2, k2]
/-- The nodes of a component reach each other. -/
theorem comp_rch {A : Nat → Nat → Int} {n : Nat} {l : List Int} (hl : l ∈ compsL A n) {i j : Nat} (hi : i < l.length) (hj : j < l.length) :
    ∃ x y : Nat, x < n ∧ y < n ∧ l.getD i 0 = x ∧ l.getD j 0 = y ∧ rchB A n x y = true ∧ rchB A n y x = true := by
  obtain ⟨v, hv, -, rfl⟩ := mem_compsP.1 hl
  obtain ⟨x, hx, rx, ex⟩ := compL_at hi
  obtain ⟨y, hy, ry, ey⟩ := compL_at hj
  obtain ⟨a1, a2⟩ := relB_t.1 rx
  obtain ⟨b1, b2⟩ := relB_t.1 ry
  exact ⟨x, y, hx, hy, ex, ey, rchB_t.2 (rch_trans a2 b1), rchB_t.2 (rch_trans b2 a1)⟩
end M
end Go.Proofs.YtcofjjipjcekjaaGreat

namespace Go.Proofs.YtcofjjipjcekjaaGreat
namespace M
theorem filter_ids (L : List (List Int)) (p : List Int → Bool) : ((List.range L.length).filter fun i => p (L.getD i [])).map (fun i => L.getD i []) = L.filter p := by
  have h : (List.range L.length).map (fun i => L.getD i []) = L := by
    apply List.ext_getElem
    · simp
    · intro k k1 k2
      simp only [List.getElem_map, List.getElem_range]
      rw [List.getD_eq_getElem?_getD, List.getElem?_eq_getElem k2, Option.getD_some]
  conv => rhs; rw [← h]
  rw [List.filter_map]
  rfl
/-- The chosen places among the first k. -/
def idsK (L : List (List Int)) (p : List Int → Bool) (k : Nat) : List Nat := (List.range k).filter fun i => p (L.getD i [])
theorem idsK_next (L : List (List Int)) (p : List Int → Bool) (k : Nat) : idsK L p (k + 1) = idsK L p k ++ (if p (L.getD k []) then [k] else []) := by
  unfold idsK
  rw [List.range_succ, List.filter_append]
  congr 1
  by_cases h : p (L.getD k []) = true
  · rw [if_pos h]; rw [List.getD_eq_getElem?_getD] at h; simp [h]
  · rw [if_neg h]; rw [List.getD_eq_getElem?_getD] at h; simp [h]
theorem idsK_len (L : List (List Int)) (p : List Int → Bool) (k : Nat) : (idsK L p k).length ≤ k := by
  unfold idsK
  exact Nat.le_trans (List.length_filter_le _ _) (by simp)
theorem idsK_lt {L : List (List Int)} {p : List Int → Bool} {k i : Nat} (h : i ∈ idsK L p k) : i < k := List.mem_range.1 (List.mem_filter.1 h).1
theorem idsK_up (L : List (List Int)) (p : List Int → Bool) (k : Nat) : (idsK L p k).Pairwise (fun x y => x < y) := List.Pairwise.filter _ List.pairwise_lt_range
end M
namespace V
open Go.RowKit
theorem own_move {w w' : World} {B B' : Nat} {rv : Value} {l : List Int} (h : Own w B rv l) (hk : ∀ k, rv.ownBlock = some k → w'.heap[k]? = w.heap[k]? ∧ B' ≤ k) : Own w' B' rv l := by
  obtain ⟨h1, h2⟩ := h
  rcases h2 with h2 | ⟨g, cap, cur, e, hB, hh, r⟩
  · exact ⟨h1, .inl h2⟩
  · obtain ⟨k1, k2⟩ := hk g (by rw [e]; rfl)
    exact ⟨h1, .inr ⟨g, cap, cur, e, k2, by rw [k1]; exact hh, r⟩⟩
theorem getD_map_nat {α : Type} (f : Nat → α) (ids : List Nat) (d : α) (i : Nat) (hi : i < ids.length) : (ids.map f).getD i d = f ids[i] := by
  rw [List.getD_eq_getElem?_getD, List.getElem?_map, List.getElem?_eq_getElem hi]
  rfl
theorem OwnV.pick {w w' : World} {B B' : Nat} {v v' : Value} {R : List (List Int)} {V : List Value} (h : OwnV w B v R V) (ids : List Nat) (hid : ids.Pairwise (fun x y => x < y)) (hlt : ∀ i, i ∈ ids → i < R.length)
    (ho : w'.ownsRow B' 26 1 v' ids.length (ids.map fun i => V.getD i (.slice none 0 0)))
    (hk : ∀ i k, i < R.length → (V.getD i (.slice none 0 0)).ownBlock = some k → w'.heap[k]? = w.heap[k]? ∧ B' ≤ k ∧ v'.ownBlock ≠ some k) :
    OwnV w' B' v' (ids.map fun i => R.getD i []) (ids.map fun i => V.getD i (.slice none 0 0)) := by
  obtain ⟨h1, h2, h3, h4, h5⟩ := h
  have hl : (ids.map fun i => R.getD i []).length = ids.length := by simp
  refine ⟨by simp, by rw [hl]; exact ho, fun i hi => ?_, fun i hi k e => ?_, fun i j hi hj hne k e => ?_⟩
  · rw [hl] at hi
    rw [getD_map_nat _ _ _ _ hi, getD_map_nat _ _ _ _ hi]
    have hm := hlt _ (List.getElem_mem hi)
    exact own_move (h3 _ hm) fun k e => ⟨(hk _ k hm e).1, (hk _ k hm e).2.1⟩
  · rw [hl] at hi
    rw [getD_map_nat _ _ _ _ hi] at e
    exact (hk _ k (hlt _ (List.getElem_mem hi)) e).2.2
  · rw [hl] at hi hj
    rw [getD_map_nat _ _ _ _ hi] at e
    rw [getD_map_nat _ _ _ _ hj]
    refine h5 _ _ (hlt _ (List.getElem_mem hi)) (hlt _ (List.getElem_mem hj)) (fun q => ?_) k e
    rcases Nat.lt_or_gt_of_ne hne with hij | hij
    · have := List.pairwise_iff_getElem.1 hid i j hi hj hij; omega
    · have := List.pairwise_iff_getElem.1 hid j i hj hi hij; omega
theorem OwnV.keep {w w' : World} {B : Nat} {v : Value} {R : List (List Int)} {V : List Value} (h : OwnV w B v R V) (hk : ∀ k, B ≤ k → k < w.heap.size → w'.heap[k]? = w.heap[k]?) : OwnV w' B v R V := by
  obtain ⟨h1, h2, h3, h4, h5⟩ := h
  exact ⟨h1, ownsRow_keep h2 (fun k hv => hk k (own_lt h2 hv).1 (own_lt h2 hv).2), fun i hi => (h3 i hi).keep hk, h4, h5⟩
theorem OwnV.below {w w' : World} {B : Nat} {v : Value} {R : List (List Int)} {V : List Value} (h : OwnV w B v R V) (hb : Below w.heap.size w w') : OwnV w' B v R V := h.keep (fun k _ h2 => hb.block k h2)
theorem row_lit0 (w : World) (B : Nat) (hB : B ≤ w.heap.size) : (w.alloc (.cells #[] 26)).ownsRow B 26 1 (.slice (some ⟨w.heap.size, 0, none⟩) 0 0) 0 [] := by
  obtain ⟨V, h1, h2, -⟩ := ownM_lit0 w B hB
  obtain rfl : V = [] := List.eq_nil_of_length_eq_zero h1
  exact h2
/-- One row of an owned matrix, with its value. -/
theorem OwnV.cell {w : World} {B : Nat} {a : Option Addr} {n cap : Nat} {R : List (List Int)} {V : List Value} (h : OwnV w B (.slice a n cap) R V) (i : Nat) (hi : i < n) :
    ∃ g ra rc, a = some ⟨g, 0, none⟩ ∧ V.getD i (.slice none 0 0) = .slice ra (R.getD i []).length rc ∧ w.cell? ⟨g, i, none⟩ = some (.slice ra (R.getD i []).length rc) ∧ Ints .i64 w ra (R.getD i []).length (R.getD i []) := by
  obtain ⟨h1, h2, h3, h4, h5⟩ := h
  obtain ⟨a', c', hv, hc, hm, hg⟩ := own_form h2
  injection hv with e1 e2 e3
  subst e1 e2 e3
  obtain ⟨g, rfl, hB, hlt⟩ := hg (by omega)
  obtain ⟨ra, rc, hv, hI⟩ := (h3 i hi).ints
  refine ⟨g, ra, rc, rfl, hv, ?_, hI⟩
  have := World.ownsRow.cellAt h2 i (by omega)
  rw [this, ← hv]
  simp [h1, hi]
theorem appendVal (w : World) {ops : Array Oper} {rest : List Oper} {o : Oper} {a : Act} {Q : Exit → Act → World → Prop} (hgd : o.guard = none) (s x : Operand)
    (ho : o.op = .call { callee := .builtin .append, args := #[s, x], argTypes := #[24, 24] }) (B : Nat) (v : Value) (V : List Value) (ra : Option Addr) (L rc n : Nat) (hs : a.eval s = v) (hown : w.ownsRow B 26 1 v n V)
    (hx : a.eval x = .slice (some ⟨w.heap.size, 0, none⟩) 1 1) (hlen : n ≤ 2000000) (hB : B ≤ w.heap.size)
    (h : ∀ b' c' w', w'.ownsRow B 26 1 (.slice b' (n + 1) c') (n + 1) (V ++ [.slice ra L rc]) → Below B w w' → (∀ k, k < w.heap.size → v.ownBlock ≠ some k → w'.heap[k]? = w.heap[k]?) → wpList Tryz.prog ops Q rest (a.put o.dst (.slice b' (n + 1) c')) w') :
    wpList Tryz.prog ops Q (o :: rest) a (w.alloc (.cells #[.slice ra L rc] 26)) := by
  obtain ⟨i0, hi, hz0, hz1, hz2⟩ := info_parts infoS64
  have hown2 : (w.alloc (.cells #[.slice ra L rc] 26)).ownsRow B 26 1 v n V := World.ownsRow.alloc hown _
  have hVl : V.length = n := by have := hown.1; omega
  refine wpList_append_own_at (w := w.alloc (.cells #[.slice ra L rc] 26)) hgd s x 24 ho B 26 i0 (.slice none 0 0) 1 24 Tryz.underlying24 hi hz0 hz1 hz2 rfl (by decide) v _ _ hs hown2 ⟨w.heap.size, 0, none⟩ 1 1 [.slice ra L rc] hx rfl (cell_one_new _ _ _) ?c2 ?c3 ?c4 ?c5 ?_
  case c2 => intro u hu; simp at hu; subst hu; rfl
  case c3 => unfold maxLen; omega
  case c4 => omega
  case c5 => simp; omega
  · intro v' w' hown' hgrow hz hvb
    have ho' : w'.ownsRow B 26 1 v' (n + 1) (V ++ [.slice ra L rc]) := by simpa using hown'
    obtain ⟨b', c', hv', _⟩ := own_form ho'
    subst hv'
    refine h b' c' w' ho' (((Below.refl B w).alloc hB _).grown hgrow (by simp; omega) (fun k hk => (own_lt hown hk).1)) (fun k hk hne => ?_)
    obtain ⟨g1, g2, g3, g4, g5⟩ := hgrow
    rw [g5 k (by simp; omega) (fun e => hne e.symm), Below.heap_alloc _ _ _ hk]
end V
end Go.Proofs.YtcofjjipjcekjaaGreat

namespace Go.Proofs.YtcofjjipjcekjaaGreat
namespace M
theorem crRow {R : List (List Int)} {n k : Nat} (hn : R.length = n) (hk : k < (compsL (ent (crM R)) n).length) :
    1 ≤ ((compsL (ent (crM R)) n).getD k []).length ∧ hasB (nodesL R) (((compsL (ent (crM R)) n).getD k []).getD 0 0) = crN R (vx ((compsL (ent (crM R)) n).getD k []) 0) := by
  have hm : (compsL (ent (crM R)) n).getD k [] ∈ compsL (ent (crM R)) n := by rw [List.getD_eq_getElem?_getD, List.getElem?_eq_getElem hk]; exact List.getElem_mem hk
  generalize (compsL (ent (crM R)) n).getD k [] = l at hm ⊢
  obtain ⟨v, hv, -, rfl⟩ := mem_compsP.1 hm
  have hp := compL_pos (A := ent (crM R)) hv
  refine ⟨hp, ?_⟩
  obtain ⟨x, hx, -, ex⟩ := compL_at (k := 0) hp
  unfold vx
  rw [ex]
  apply Bool.eq_iff_iff.2
  rw [hasB_iff, mem_nodesL]
  constructor
  · rintro ⟨f, hf, hc, e⟩
    obtain rfl : x = f := by omega
    simpa using hc
  · intro h; exact ⟨x, by omega, by simpa using h, rfl⟩
def crPick (R : List (List Int)) (l : List Int) : Bool := crN R (vx l 0)
theorem crM_sm {R : List (List Int)} (hs : sqB R = true) {n : Nat} (hn : R.length = n) : ∀ i j, i < n → j < n → Sm 1000000 (ent (crM R) i j) := by
  intro i j hi hj
  obtain ⟨-, -, hA⟩ := sq_sm hs
  subst hn
  unfold crM
  rw [ent_mk _ _ _ _ _ hi hj]
  unfold crF
  split
  · exact hA i j hi hj
  · exact .inl rfl
theorem crComps_ids {R : List (List Int)} {n : Nat} (hn : R.length = n) : (idsK (compsL (ent (crM R)) n) (crPick R) (compsL (ent (crM R)) n).length).map (fun i => (compsL (ent (crM R)) n).getD i []) = crComps R := by
  subst hn
  exact filter_ids _ _
end M
namespace V
set_option maxRecDepth 100000
open Go.RowKit
end V
end Go.Proofs.YtcofjjipjcekjaaGreat

namespace Go.Proofs.YtcofjjipjcekjaaGreat
namespace M
/-- From a critical node on, and towards one, all is critical. -/
theorem crN_rch {R : List (List Int)} {n r c : Nat} (hn : R.length = n) (h : Rch (ent (crM R)) n r c) (hc : crN R c = true) : crN R r = true := by
  obtain ⟨s, f, h0, hs, hlt, harc⟩ := h
  cases s with
  | zero => rw [← h0, hs]; exact hc
  | succ s =>
    have h1 := harc 0 (by omega)
    have l0 := hlt 0 (by omega)
    have l1 := hlt 1 (by omega)
    subst hn
    unfold crM at h1
    rw [ent_mk _ _ _ _ _ l1 l0] at h1
    unfold crF at h1
    unfold crN
    rw [← h0]
    refine List.any_eq_true.2 ⟨f 1, List.mem_range.2 l1, ?_⟩
    cases e : crB R (f 0) (f 1) with
    | true => rfl
    | false => rw [e] at h1; exact absurd rfl h1
theorem crComps_pos {R : List (List Int)} (h1 : sqB R = true) (h2 : hasCyc (ent R) R.length = true) : 1 ≤ (crComps R).length := by
  obtain ⟨q1, q2, q3, q4⟩ := best_cyc h1 h2
  have hcr := crit_cyc h1 h2 q1
  rw [decide_eq_true q2] at hcr
  obtain ⟨-, hnod, -, -⟩ := crCycB_t q1
  have hall := List.all_eq_true.1 hcr.symm 0 (List.mem_range.2 (by omega))
  have hc := vx_lt hnod (k := 0) (by omega)
  have ht := vx_lt hnod (k := (0 + 1) % (bestCyc R).length) (Nat.mod_lt _ (by omega))
  have hcn : crN R (vx (bestCyc R) 0) = true := List.any_eq_true.2 ⟨_, List.mem_range.2 ht, hall⟩
  generalize vx (bestCyc R) 0 = c at *
  obtain ⟨r1, r2, r3⟩ := rep_t (A := ent (crM R)) hc
  have hrc := (relB_t.1 r2).2
  have hrn := crN_rch rfl hrc hcn
  have he := compL_eq r2
  have hrr : repN (ent (crM R)) R.length (repN (ent (crM R)) R.length c) = repN (ent (crM R)) R.length c := by
    show ((compL (ent (crM R)) R.length (repN (ent (crM R)) R.length c)).getD 0 0).toNat = _
    rw [← he]; rfl
  have hm : compL (ent (crM R)) R.length (repN (ent (crM R)) R.length c) ∈ crComps R := by
    refine List.mem_filter.2 ⟨mem_compsP.2 ⟨_, r1, hrr, rfl⟩, ?_⟩
    have : vx (compL (ent (crM R)) R.length (repN (ent (crM R)) R.length c)) 0 = repN (ent (crM R)) R.length c := hrr
    rw [this]
    exact hrn
  exact List.length_pos_of_mem hm
theorem comps_up (A : Nat → Nat → Int) (n m : Nat) : (compsP A n m).Pairwise (fun x y => vx x 0 < vx y 0) ∧ ∀ l, l ∈ compsP A n m → vx l 0 < m := by
  refine ⟨?_, fun l hl => ?_⟩
  · induction m with
    | zero => exact List.Pairwise.nil
    | succ m ih =>
      rw [compsP_next]
      refine List.pairwise_append.2 ⟨ih, ?_, fun x hx y hy => ?_⟩
      · split
        · exact List.pairwise_singleton ..
        · exact List.Pairwise.nil
      · obtain ⟨v, hv, hr, rfl⟩ := mem_compsP.1 hx
        split at hy
        · next h =>
          rw [List.mem_singleton.1 hy]
          have e1 : vx (compL A n v) 0 = v := hr
          have e2 : vx (compL A n m) 0 = m := h
          omega
        · exact absurd hy List.not_mem_nil
  · obtain ⟨v, hv, hr, rfl⟩ := mem_compsP.1 hl
    have e1 : vx (compL A n v) 0 = v := hr
    omega
theorem rect_stc (S : Nat → Nat → Int) (n : Nat) : (stcM S n).length = n ∧ ∀ c, c < n → ((stcM S n).getD c []).length = n := ⟨by unfold stcM; simp, fun c hc => by unfold stcM; exact mk_rowlen _ _ _ _ hc⟩
def colIds (R : List (List Int)) : List Nat := (crComps R).map fun l => vx l 0
theorem colIds_up (R : List (List Int)) : (colIds R).Pairwise (fun x y => x < y) := by
  unfold colIds
  rw [List.pairwise_map]
  exact List.Pairwise.filter _ (comps_up _ _ _).1
theorem colIds_lt {R : List (List Int)} {i : Nat} (h : i ∈ colIds R) : i < R.length := by
  obtain ⟨l, hl, rfl⟩ := List.mem_map.1 h
  exact (comps_up _ _ _).2 l (List.mem_filter.1 hl).1
/-- The columns. -/
def colsL (R : List (List Int)) : List (List Int) := (colIds R).map fun i => (stcM (crS R) R.length).getD i []
def colsRes (R : List (List Int)) : List (List Int) × Int := if crCode R = 0 then (if (colsL R).all isVec then (colsL R, 0) else ([], 3)) else ([], crCode R)
theorem cols_row {R : List (List Int)} {i : Nat} (h : i < R.length) : ((stcM (crS R) R.length).getD i []).length = R.length := by
  unfold stcM
  exact mk_rowlen _ _ _ _ h
theorem colsL_len (R : List (List Int)) : (colsL R).length = (crComps R).length := by unfold colsL colIds; simp
theorem crComps_len (R : List (List Int)) : (crComps R).length ≤ R.length := by
  unfold crComps
  have h1 := List.length_filter_le (fun l => crN R (vx l 0)) (compsL (ent (crM R)) R.length)
  have h2 := compsP_len (ent (crM R)) R.length R.length
  unfold compsL at h1 ⊢
  omega
theorem cols_at {R : List (List Int)} {k : Nat} (h : k < (colsL R).length) : ((colsL R).getD k []).length = R.length := by
  unfold colsL at h ⊢
  rw [List.getD_eq_getElem?_getD, List.getElem?_eq_getElem h, Option.getD_some, List.getElem_map]
  exact cols_row (colIds_lt (List.getElem_mem _))
theorem cols_mat {R : List (List Int)} (h1 : sqB R = true) (h2 : hasCyc (ent R) R.length = true) : isMat (colsL R) = (colsL R).all isVec := by
  obtain ⟨n1, n2, -⟩ := sq_sm h1
  have hp := crComps_pos h1 h2
  have hl := colsL_len R
  have hm := crComps_len R
  unfold isMat
  rw [decide_eq_true (show 1 ≤ (colsL R).length by omega), decide_eq_true (show (colsL R).length ≤ 10 by omega), Bool.true_and, Bool.true_and]
  have hw : wid (colsL R) = R.length := cols_at (k := 0) (by omega)
  rw [hw]
  apply Bool.eq_iff_iff.2
  rw [List.all_eq_true, List.all_eq_true]
  refine ⟨fun h x hx => ?_, fun h x hx => ?_⟩
  · have := h x hx; rw [Bool.and_eq_true] at this; exact this.1
  · rw [Bool.and_eq_true]
    refine ⟨h x hx, ?_⟩
    obtain ⟨k, hk, e⟩ := List.mem_iff_getElem.1 hx
    have := cols_at hk
    rw [List.getD_eq_getElem?_getD, List.getElem?_eq_getElem hk, Option.getD_some, e] at this
    exact decide_eq_true this
theorem col_at {R : List (List Int)} {n k : Nat} (hn : R.length = n) (hk : k < (crComps R).length) : ∃ c : Nat, c < n ∧ 1 ≤ ((crComps R).getD k []).length ∧ ((crComps R).getD k []).getD 0 0 = (c : Int) ∧ (colsL R).getD k [] = (stcM (crS R) n).getD c [] ∧ (colIds R).take (k + 1) = (colIds R).take k ++ [c] := by
  subst hn
  have hm : (crComps R).getD k [] ∈ crComps R := by rw [List.getD_eq_getElem?_getD, List.getElem?_eq_getElem hk]; exact List.getElem_mem hk
  have hg : (crComps R).getD k [] = (crComps R)[k] := by rw [List.getD_eq_getElem?_getD, List.getElem?_eq_getElem hk]; rfl
  have hi : k < (colIds R).length := by unfold colIds; simpa using hk
  have hc : (colIds R)[k] = vx ((crComps R).getD k []) 0 := by rw [hg]; exact List.getElem_map _
  refine ⟨vx ((crComps R).getD k []) 0, (comps_up _ _ _).2 _ (List.mem_filter.1 hm).1, ?_, ?_, ?_, ?_⟩
  · obtain ⟨v, hv, -, e⟩ := mem_compsP.1 (List.mem_filter.1 hm).1
    rw [e]; exact compL_pos hv
  · obtain ⟨v, hv, -, e⟩ := mem_compsP.1 (List.mem_filter.1 hm).1
    rw [e]
    have := (rep_t (A := ent (crM R)) hv).2.2
    exact this
  · rw [← hc]
    unfold colsL
    rw [List.getD_eq_getElem?_getD, List.getElem?_map, List.getElem?_eq_getElem hi]
    rfl
  · rw [← hc, List.take_add_one, List.getElem?_eq_getElem hi]
    rfl
theorem takeL_next {L : List (List Int)} {k : Nat} (h : k < L.length) : L.take (k + 1) = L.take k ++ [L.getD k []] := by
  rw [List.take_add_one, List.getElem?_eq_getElem h, List.getD_eq_getElem?_getD, List.getElem?_eq_getElem h]
  rfl
theorem all_take {L : List (List Int)} {k : Nat} (h : k < L.length) (hv : isVec (L.getD k []) = false) : L.all isVec = false := by
  apply Bool.eq_false_iff.2
  intro e
  have := List.all_eq_true.1 e (L.getD k []) (by rw [List.getD_eq_getElem?_getD, List.getElem?_eq_getElem h]; exact List.getElem_mem h)
  rw [hv] at this
  exact Bool.false_ne_true this
theorem all_take_next {L : List (List Int)} {k : Nat} (h : k < L.length) (hv : isVec (L.getD k []) = true) (ha : (L.take k).all isVec = true) : (L.take (k + 1)).all isVec = true := by
  rw [takeL_next h, List.all_append, ha, List.all_cons, hv]
  rfl
theorem colsRes_ok (R : List (List Int)) : okM (colsRes R).1 := by
  unfold colsRes
  by_cases h : crCode R = 0
  · rw [if_pos h]
    obtain ⟨h1, h2⟩ := cr_code h
    by_cases hv : (colsL R).all isVec = true
    · rw [if_pos hv]; right; rw [cols_mat h1 h2]; exact hv
    · rw [if_neg hv]; exact .inl rfl
  · rw [if_neg h]; exact .inl rfl
end M
end Go.Proofs.YtcofjjipjcekjaaGreat

namespace Go.Proofs.YtcofjjipjcekjaaGreat
namespace M
section
variable {f : Nat → Nat → Option Int} {n : Nat} (hd : ∀ m, m < n → ole (ofw f m m m) (some 0))
include hd
/-- A node on an arc whose best way back takes off what it weighs. -/
theorem col_o {t c : Nat} (hc : c < n) (ht : t < n) (h : omul (f t c) (obm f n n c t) = some 0) {i : Nat} (hi : i < n) : osum n (fun u => omul (f i u) (obm f n n u c)) = obm f n n i c := by
  rw [osum_plus hd hi hc]
  by_cases e : i = c
  · subst e
    rw [obm_self hd hi]
    refine ole_anti (ofw_diag f n hd i hi) ?_
    by_cases e2 : t = i
    · subst e2
      rw [obm_self hd ht, omul_zero] at h
      rw [← h]
      exact ofw_ge f n t t
    · rw [obm_other hd hi ht (fun q => e2 q.symm)] at h
      rw [← h, omul_comm]
      exact ole_trans (omul_mono (ole_rfl _) (ofw_ge f n t i)) (ofw_trans f n hd t ht i i)
  · rw [obm_other hd hi hc e]
end
theorem col_eig {R : List (List Int)} {c : Nat} (h1 : sqB R = true) (h2 : hasCyc (ent R) R.length = true) (hc : c < R.length) (hcr : crN R c = true) (hr : isRat (bestR (ent R) R.length).1 (bestR (ent R) R.length).2 = true) (hv : isVec ((stcM (crS R) R.length).getD c []) = true) :
    eigB R (bestR (ent R) R.length).1 (bestR (ent R) R.length).2 ((stcM (crS R) R.length).getD c []) = true := by
  obtain ⟨n1, n2, -⟩ := sq_sm h1
  obtain ⟨-, hS, hp⟩ := cr_t h1 h2
  have hd := o_diag n2 hS hp
  obtain ⟨t, ht, hct⟩ := List.any_eq_true.1 hcr
  have ht := List.mem_range.1 ht
  have h0 := (crB_o h1 h2 ht hc).1 hct
  have hl := cols_row hc
  have hx : ∀ i, i < R.length → ((stcM (crS R) R.length).getD c []).getD i 0 = starF (crS R) R.length i c := fun i hi => by
    show ent (stcM (crS R) R.length) c i = _
    unfold stcM
    rw [ent_mk _ _ _ _ _ hc hi, ent_mk _ _ _ _ _ hi hc]
  have ho : ∀ i, i < R.length → o (starF (crS R) R.length i c) = obm (fun i j => o (crS R i j)) R.length R.length i c := fun i hi => by
    unfold starF
    rw [← clo_star n2 hS hp hi hc, o_cbm hS R.length (by omega) i c hi hc]
  generalize hxx : (stcM (crS R) R.length).getD c [] = x at *
  have hok : cmpOk R (bestR (ent R) R.length).1 (bestR (ent R) R.length).2 x = true := by
    unfold cmpOk
    rw [h1, hr, hv, decide_eq_true hl]
    rfl
  have himg : imgL R (bestR (ent R) R.length).1 (bestR (ent R) R.length).2 x = x := by
    apply List.ext_getElem
    · rw [imgL_len, hl]
    · intro i k1 k2
      have hi : i < R.length := by rw [hl] at k2; exact k2
      have e1 := imgL_at hok hi
      rw [List.getD_eq_getElem?_getD, List.getElem?_eq_getElem k1, Option.getD_some] at e1
      have e2 := hx i hi
      rw [List.getD_eq_getElem?_getD, List.getElem?_eq_getElem k2, Option.getD_some] at e2
      rw [e1, e2]
      apply o_inj
      have hsm : ∀ j, j < R.length → Sm 12001012000000 (times (crS R i j) (x.getD j 0)) := fun j hj => by
        rw [hx j hj]
        have q1 := hS i j hi hj
        have q2 := star_sm n2 hS hp hj hc
        unfold times
        split
        · exact .inl rfl
        · next hne =>
          rcases q1 with q1 | q1
          · exact absurd (.inl q1) hne
          · rcases q2 with q2 | q2
            · exact absurd (.inr q2) hne
            · right; omega
      rw [ho i hi, ← col_o hd hc ht h0 hi]
      show o (sumN R.length fun j => times (crS R i j) (x.getD j 0)) = _
      rw [o_sum hsm (by omega)]
      refine osum_congr fun j hj => ?_
      rw [hx j hj, o_times (hS i j hi hj) (star_sm n2 hS hp hj hc) (by omega) (by omega), ho j hj]
  unfold eigB
  rw [himg, imgB_cmp, hok, decide_eq_true rfl, Bool.and_true, Bool.true_and]
  refine List.any_eq_true.2 ⟨x.getD c 0, ?_, ?_⟩
  · rw [List.getD_eq_getElem?_getD, List.getElem?_eq_getElem (by omega), Option.getD_some]; exact List.getElem_mem _
  · rw [hx c hc]; unfold starF; rw [if_pos rfl]; rfl
theorem cols_eig {R : List (List Int)} (h0 : crCode R = 0) (hv : (colsL R).all isVec = true) (hc : (cycMeanRes R).2 = 0) {k : Nat} (hk : k < (colsL R).length) : eigB R (cycMeanRes R).1.1 (cycMeanRes R).1.2 ((colsL R).getD k []) = true := by
  obtain ⟨h1, h2⟩ := cr_code h0
  obtain ⟨-, -, hr, he⟩ := cyc_t hc
  have hki : k < (colIds R).length := by unfold colsL at hk; simpa using hk
  have hm : (colsL R).getD k [] ∈ colsL R := by rw [List.getD_eq_getElem?_getD, List.getElem?_eq_getElem hk]; exact List.getElem_mem hk
  have hvk := List.all_eq_true.1 hv _ hm
  have hg : (colsL R).getD k [] = (stcM (crS R) R.length).getD (colIds R)[k] [] := by
    unfold colsL
    rw [List.getD_eq_getElem?_getD, List.getElem?_map, List.getElem?_eq_getElem hki]
    rfl
  have hci : (colIds R)[k] ∈ colIds R := List.getElem_mem hki
  have hlt := colIds_lt hci
  obtain ⟨l, hl, e⟩ := List.mem_map.1 hci
  have hcr : crN R (colIds R)[k] = true := by rw [← e]; exact (List.mem_filter.1 hl).2
  rw [he, hg]
  rw [hg] at hvk
  exact col_eig h1 h2 hlt hcr hr hvk
theorem cols_t {R : List (List Int)} (h : (colsRes R).2 = 0) : crCode R = 0 ∧ (colsL R).all isVec = true ∧ colsRes R = (colsL R, 0) ∧ compRes R = (crComps R, 0) ∧ (crComps R).length = (colsL R).length ∧ (colsL R).length ≤ 10 := by
  unfold colsRes at h ⊢
  by_cases h0 : crCode R = 0
  · rw [if_pos h0] at h ⊢
    by_cases hv : (colsL R).all isVec = true
    · rw [if_pos hv]
      obtain ⟨n1, n2, -⟩ := sq_sm (cr_code h0).1
      have := crComps_len R
      have := colsL_len R
      exact ⟨h0, hv, rfl, by unfold compRes; rw [if_pos h0], by omega, by omega⟩
    · rw [if_neg hv] at h; simp at h
  · rw [if_neg h0] at h; exact absurd h h0
end M
end Go.Proofs.YtcofjjipjcekjaaGreat

namespace Go.Proofs.YtcofjjipjcekjaaGreat
namespace M
theorem eig_sub {R : List (List Int)} {a b : Int} {x : List Int} (h : eigB R a b x = true) : subB R a b x = true := by
  unfold eigB at h
  rw [Bool.and_eq_true, decide_eq_true_eq] at h
  unfold subB
  rw [h.1, h.2]
  unfold atMostB
  rw [Bool.true_and, List.all_eq_true]
  intro i _
  exact decide_eq_true (Int.le_refl _)
theorem sm_sumB {L : Int} {k : Nat} {f : Nat → Int} (h : ∀ t, t < k → Sm L (f t)) (hL : 0 ≤ L) (hL2 : L ≤ 100000000000000) : Sm L (sumN k f) := by
  induction k with
  | zero => exact .inl rfl
  | succ k ih =>
    have h1 := ih fun t ht => h t (by omega)
    have h2 := h k (by omega)
    show Sm L (max (sumN k f) (f k))
    unfold Sm at *
    omega
theorem times_sumB {k : Nat} {f : Nat → Int} {g : Int} (h : ∀ t, t < k → Sm 10000000000000 (f t)) (hg : -10000000 ≤ g ∧ g ≤ 10000000) : times (sumN k f) g = sumN k fun t => times (f t) g := by
  induction k with
  | zero => simp [sumN, times]
  | succ k ih =>
    have h1 := sm_sumB (k := k) (f := f) (L := 10000000000000) (fun t ht => h t (by omega)) (by omega) (by omega)
    have h2 := h k (by omega)
    show times (max (sumN k f) (f k)) g = max (sumN k fun t => times (f t) g) (times (f k) g)
    rw [← ih fun t ht => h t (by omega)]
    unfold Sm at h1 h2
    unfold times
    split <;> split <;> split <;> omega
/-- An eigenvector that is shifted is one as long as it is a vector. -/
theorem eig_shift {R : List (List Int)} {a b g : Int} {x : List Int} (h : eigB R a b x = true) (hg : isFin g = true) (hv : isVec (shvL x g) = true) : eigB R a b (shvL x g) = true := by
  have hgb : -10000000 ≤ g ∧ g ≤ 10000000 := by
    unfold isFin at hg
    simp at hg
    omega
  unfold eigB at h
  rw [Bool.and_eq_true, decide_eq_true_eq] at h
  obtain ⟨h1, h2⟩ := h
  have hok : cmpOk R a b x = true := by rw [imgB_cmp, Bool.and_eq_true] at h1; exact h1.1
  obtain ⟨c1, c2, c3, c4⟩ := cmpOk_t hok
  obtain ⟨n1, n2, hA⟩ := sq_sm c1
  have hok2 : cmpOk R a b (shvL x g) = true := by
    unfold cmpOk
    rw [c1, c2, hv, decide_eq_true (show (shvL x g).length = R.length by rw [shv_len, c4])]
    rfl
  have hS := sh_sm hA (near_rat c2)
  have vx' := (isVec_t c3).2.2
  have himg : imgL R a b (shvL x g) = shvL x g := by
    refine list_ext0 (by rw [imgL_len, shv_len, c4]) fun i hi => ?_
    rw [imgL_len] at hi
    have e1 := imgL_at hok hi
    rw [h2] at e1
    rw [imgL_at hok2 hi, shv_get (by omega), e1]
    have hs : ∀ j, j < R.length → Sm 10000000000000 (times (shf (ent R) a b i j) (x.getD j 0)) := fun j hj => by
      have e1 := hS i j hi hj
      have e2 := isVal_t (vx' j (by omega))
      unfold Sm at *
      unfold times
      split <;> omega
    rw [times_sumB hs hgb]
    refine sumN_congr fun j hj => ?_
    rw [shv_get (by omega)]
    have e1 := hS i j hi hj
    have e2 := isVal_t (vx' j (by omega))
    unfold Sm at e1
    generalize shf (ent R) a b i j = u at *
    generalize x.getD j 0 = v at *
    unfold times
    split <;> split <;> split <;> split <;> omega
  unfold eigB
  rw [himg, imgB_cmp, hok2, decide_eq_true rfl, Bool.and_true, Bool.true_and]
  rw [imgB_cmp, Bool.and_eq_true] at h1
  obtain ⟨v, hv1, hv2⟩ := List.any_eq_true.1 h1.2
  refine List.any_eq_true.2 ⟨times v g, List.mem_map.2 ⟨v, hv1, rfl⟩, ?_⟩
  rw [decide_eq_true_eq] at hv2 ⊢
  obtain ⟨j, hj, e⟩ := List.mem_iff_getElem.1 hv1
  have := isVal_t (vx' j hj)
  rw [List.getD_eq_getElem?_getD, List.getElem?_eq_getElem hj, Option.getD_some, e] at this
  unfold times
  split <;> omega
end M
end Go.Proofs.YtcofjjipjcekjaaGreat

namespace Go.Proofs.YtcofjjipjcekjaaGreat
namespace M
/-- The eigenvector that is told: the column of the star at a node of the best cycle. -/
theorem eig_self {R : List (List Int)} (hc : (cycMeanRes R).2 = 0) (hv : isVec ((List.range R.length).map fun i => starF (crS R) R.length i (vx (bestCyc R) 0)) = true) :
    eigB R (bestR (ent R) R.length).1 (bestR (ent R) R.length).2 ((List.range R.length).map fun i => starF (crS R) R.length i (vx (bestCyc R) 0)) = true := by
  obtain ⟨h1, h2, hr, -⟩ := cyc_t hc
  obtain ⟨q1, q2, q3, q4⟩ := best_cyc h1 h2
  obtain ⟨l1, hn, -, -⟩ := crCycB_t q1
  have hlt := vx_lt hn (k := 0) (by omega)
  have hcr : crN R (vx (bestCyc R) 0) = true := by
    have h3 : crAll R (bestCyc R) = true := by rw [← crit_cyc h1 h2 q1, q2]; exact decide_eq_true rfl
    have h4 := List.all_eq_true.1 h3 0 (List.mem_range.2 (by omega))
    exact List.any_eq_true.2 ⟨_, List.mem_range.2 (vx_lt hn (Nat.mod_lt _ (by omega))), h4⟩
  have e : ((List.range R.length).map fun i => starF (crS R) R.length i (vx (bestCyc R) 0)) = (stcM (crS R) R.length).getD (vx (bestCyc R) 0) [] := by
    unfold stcM
    rw [mk_row _ _ _ _ hlt]
    refine List.map_congr_left fun i hi => ?_
    rw [ent_mk _ _ _ _ _ (List.mem_range.1 hi) hlt]
  rw [e] at hv ⊢
  exact col_eig h1 h2 hlt hcr hr hv
end M
end Go.Proofs.YtcofjjipjcekjaaGreat

namespace Go.Proofs.YtcofjjipjcekjaaGreat
namespace M
theorem eig_law {R : List (List Int)} (h : (eigRes R).2.2 = 0) : eigB R (eigRes R).2.1.1 (eigRes R).2.1.2 (eigRes R).1 = true ∧
    ∀ g : Int, -25 ≤ g → g ≤ 25 → (shvRes (eigRes R).1 g).2 = 3 ∨ ((shvRes (eigRes R).1 g).2 = 0 ∧ eigB R (eigRes R).2.1.1 (eigRes R).2.1.2 (shvRes (eigRes R).1 g).1 = true) := by
  unfold eigRes at h ⊢
  by_cases h1 : (cycMeanRes R).2 = 0
  · rw [if_pos h1] at h ⊢
    unfold eigOk at h ⊢
    by_cases h2 : isVec (eigL R) = true
    · rw [if_pos h2]
      have he : eigB R (bestR (ent R) R.length).1 (bestR (ent R) R.length).2 (eigL R) = true := eig_self h1 h2
      refine ⟨he, fun g g1 g2 => ?_⟩
      have hf : isFin g = true := by unfold isFin; simp; omega
      show (shvRes (eigL R) g).2 = 3 ∨ ((shvRes (eigL R) g).2 = 0 ∧ eigB R (bestR (ent R) R.length).1 (bestR (ent R) R.length).2 (shvRes (eigL R) g).1 = true)
      unfold shvRes
      rw [if_pos h2, if_pos hf]
      by_cases hv : isVec (shvL (eigL R) g) = true
      · rw [if_pos hv]
        exact .inr ⟨rfl, eig_shift he hf hv⟩
      · rw [if_neg hv]
        exact .inl rfl
    · rw [if_neg h2] at h; simp at h
  · rw [if_neg h1] at h; exact absurd h h1
end M
end Go.Proofs.YtcofjjipjcekjaaGreat

namespace Go.Proofs.YtcofjjipjcekjaaGreat.V
open Go.RowKit Go.ChangeShapes Go.WideShapes Go.Deep

theorem mat_open {H : Type} {enc : TypeId × Value → H} {P : Program} {w : World} {base : Nat} {held : Bool} {t e q : TypeId} {fuel : Nat} {cs : List Value} {x : DataW H × List MemPlace} (ht : P.underlying t = some (.slice e)) (he : P.underlying e = some (.slice q)) (hq : P.underlying q = some (.int .i64))
    (ce : P.cellsOf e = 1) (cq : P.cellsOf q = 1) (h : DataW.trod enc P w base (fun _ => true) held fuel t cs = some x) :
    ∃ a len cap R, cs = [.slice a len cap] ∧ Mat w a len R := by
  rcases open_int_rows ht he hq ce cq h with ⟨rfl, -⟩ | ⟨a, len, cap, A, L, C, Z, rfl, hb, hl, hm, -, hr⟩
  · exact ⟨none, 0, 0, [], rfl, rfl, Nat.zero_le _, .inl rfl⟩
  · refine ⟨some a, len, cap, (List.range len).map fun r => (Z r).take (L r), rfl, by simp, by omega, ?_⟩
    by_cases h0 : len = 0
    · exact .inl h0
    · have hsp : a.spot = none := by
        have := (hr 0 (by omega)).1
        simpa [Addr.add] using World.cell?_spot this
      obtain ⟨b, off, spot⟩ := a
      simp only at hsp
      subst hsp
      refine .inr ⟨b, off, rfl, ?_, fun i hi => ?_⟩
      · have := cell_lt (hr 0 (by omega)).1
        simpa [Addr.add] using this
      · obtain ⟨h1, h2, h3, h4, h5, h6, h7⟩ := hr i (by omega)
        have eR : ((List.range len).map fun r => (Z r).take (L r)).getD i [] = (Z i).take (L i) := by simp [hi]
        rw [eR]
        have eL : ((Z i).take (L i)).length = L i := by rw [List.length_take]; omega
        rw [eL]
        refine ⟨A i, C i, by rw [← Go.WideShapes.add_plain]; exact h1, eL, by omega, ?_⟩
        by_cases hL : L i = 0
        · exact .inl hL
        · cases hA : A i with
          | none => have := h6 hA; omega
          | some a' =>
            obtain ⟨-, hc⟩ := h7 a' hA
            obtain ⟨b', off', rfl, hc'⟩ := ints_at (k := .i64) (zs := Z i) (fun j hj => hc j (by omega)) (by omega)
            refine .inr ⟨b', off', rfl, cell_lt (hc' 0 (by omega)), fun j hj => ?_⟩
            rw [hc' j (by omega)]
            simp [List.getD_eq_getElem?_getD, hj]
end Go.Proofs.YtcofjjipjcekjaaGreat.V
