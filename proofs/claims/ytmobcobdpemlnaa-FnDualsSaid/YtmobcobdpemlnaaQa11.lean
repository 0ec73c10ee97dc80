/- Texts laid together: Crt, Upp, Pck, Par, Srd, Plw, Repeat, Sqp. -/
import Derived.Test.YtmobcobdpemlnaaQa6
import Derived.Test.YtmobcobdpemlnaaQa9
import Derived.Test.YtmobcobdpemlnaaQa10
import Derived.Test.YtmobcobdpemlnaaQa7
import Derived.Deep.RegionLaw
import Derived.Test.YtmobcobdpemlnaaQa2
import Derived.Test.YtmobcobdpemlnaaQa3
import Derived.Test.YtmobcobdpemlnaaRows
import Derived.Test.YtmobcobdpemlnaaQa1
import Derived.WalkKit
import Derived.ProofKit
import Derived.WalkSmall
import Derived.Deep.QuietTactic
import Derived.BigQuiet
import Derived.BigRegion
import Derived.Deep.Draws
import Derived.Lib.Hide
import Derived.OpenShut
import Derived.Deep.OwnRows
import Derived.Laws.CopyOwn
import Derived.IntWalk
import Derived.Maps.AppendAt
import Derived.StillTailTactics
import Derived.Deep.RegionHeld3
set_option linter.unusedSimpArgs false
set_option linter.unusedVariables false
set_option linter.unusedSectionVars false
namespace Go.Proofs.Ytmobcobdpemlnaa
namespace M
/-- The matrix shifted by its cycle mean. -/
def crS (R : List (List Int)) (i j : Nat) : Int := shf (ent R) (bestR (ent R) R.length).1 (bestR (ent R) R.length).2 i j
/-- Is the arc from j to i critical? -/
def crB (R : List (List Int)) (j i : Nat) : Bool := decide (times (crS R i j) (starF (crS R) R.length j i) = 0)
def crCode (R : List (List Int)) : Int := if sqB R then (if hasCyc (ent R) R.length then 0 else 4) else 1
theorem cr_code {R : List (List Int)} (h : crCode R = 0) : sqB R = true ∧ hasCyc (ent R) R.length = true := by
  unfold crCode at h
  by_cases h1 : sqB R = true
  · rw [if_pos h1] at h
    by_cases h2 : hasCyc (ent R) R.length = true
    · exact ⟨h1, h2⟩
    · rw [if_neg h2] at h; omega
  · rw [if_neg h1] at h; omega
theorem cr_code_of {R : List (List Int)} (h1 : sqB R = true) (h2 : hasCyc (ent R) R.length = true) : crCode R = 0 := by
  unfold crCode; rw [if_pos h1, if_pos h2]
/-- What is at hand where there is a cycle. -/
theorem cr_t {R : List (List Int)} (h1 : sqB R = true) (h2 : hasCyc (ent R) R.length = true) :
    Near (bestR (ent R) R.length).1 (bestR (ent R) R.length).2 ∧ (∀ i j, i < R.length → j < R.length → Sm 1000001000000 (crS R i j)) ∧ noPos (crS R) R.length = true := by
  obtain ⟨n1, n2, hA⟩ := sq_sm h1
  obtain ⟨hbest, hnear, -⟩ := bestR_best n2 hA h2
  exact ⟨hnear, sh_sm hA hnear, noPos_of_walk n2 hA hnear fun v s w _ _ h3 h4 _ h6 => hbest.2.2.1 v s w h3 h4 h6⟩
theorem times0 {x y : Int} (h : times x y = 0) : x ≠ -1000000000000000 ∧ y ≠ -1000000000000000 := by
  unfold times at h
  split at h
  · omega
  · next k => exact ⟨fun e => k (.inl e), fun e => k (.inr e)⟩
theorem best_crit (R : List (List Int)) (i j : Nat) : (decide (bestF (crS R) R.length i j ≠ -1000000000000000)) = crB R j i := by
  unfold bestF crB
  by_cases h : times (crS R i j) (starF (crS R) R.length j i) = 0
  · rw [if_pos h, decide_eq_true h, decide_eq_true (times0 h).1]
  · rw [if_neg h, decide_eq_false h]; simp
theorem crB_o {R : List (List Int)} (h1 : sqB R = true) (h2 : hasCyc (ent R) R.length = true) {i j : Nat} (hi : i < R.length) (hj : j < R.length) :
    crB R j i = true ↔ omul (o (crS R i j)) (obm (fun i j => o (crS R i j)) R.length R.length j i) = some 0 := by
  obtain ⟨n1, n2, -⟩ := sq_sm h1
  obtain ⟨-, hS, hp⟩ := cr_t h1 h2
  have e1 : o (starF (crS R) R.length j i) = obm (fun i j => o (crS R i j)) R.length R.length j i := by
    unfold starF
    rw [← clo_star n2 hS hp hj hi, o_cbm hS R.length (by omega) j i hj hi]
  rw [← e1, ← o_times (hS i j hi hj) (star_sm n2 hS hp hj hi) (by omega) (by omega)]
  unfold crB
  rw [decide_eq_true_eq]
  constructor
  · intro h; rw [h]; rfl
  · intro h; exact o_inj (by rw [h]; rfl)
section
variable {f : Nat → Nat → Option Int} {n : Nat} (hd : ∀ m, m < n → ole (ofw f m m m) (some 0))
include hd
theorem obm_tri {i k j : Nat} (hi : i < n) (hk : k < n) (hj : j < n) : ole (omul (obm f n n i k) (obm f n n k j)) (obm f n n i j) := by
  rcases obm_att (f := f) (n := n) n i k hi hk with z | ⟨v, s, -, v0, vs, hv, z⟩
  · rw [z]; exact ole_none _
  · rcases obm_att (f := f) (n := n) n k j hk hj with y | ⟨u, t, -, u0, ut, hu, y⟩
    · rw [y, omul_none]; exact ole_none _
    · obtain ⟨x, x0, xs, hx, e⟩ := join_walk (g := f) (n := n) (x := u) (y := v) (s := t) (t := s) (by rw [ut, v0]) hu hv
      rw [z, y, ← e]
      have := owk_star hd x (t + s) hx
      rw [x0, xs, u0, vs] at this
      exact this
/-- A walk of arcs that each weigh what the best way back takes off. -/
theorem crit_walk (v : Nat → Nat) (s : Nat) (hv : ∀ u, u ≤ s → v u < n) (h : ∀ u, u < s → omul (f (v (u + 1)) (v u)) (obm f n n (v u) (v (u + 1))) = some 0) :
    ∃ w, owk f v s = some w ∧ ole (some (-w)) (obm f n n (v 0) (v s)) := by
  induction s with
  | zero => exact ⟨0, rfl, by rw [obm_self hd (hv 0 (Nat.le_refl _))]; exact Int.le_refl _⟩
  | succ s ih =>
    obtain ⟨w, e, hw⟩ := ih (fun u hu => hv u (by omega)) (fun u hu => h u (by omega))
    have hs := h s (by omega)
    cases ea : f (v (s + 1)) (v s) with
    | none => rw [ea] at hs; cases hs
    | some a =>
      rw [ea] at hs
      cases eb : obm f n n (v s) (v (s + 1)) with
      | none => rw [eb] at hs; cases hs
      | some b =>
        rw [eb] at hs
        have hab : a + b = 0 := Option.some.inj hs
        refine ⟨a + w, by show omul (f (v (s + 1)) (v s)) (owk f v s) = _; rw [ea, e]; rfl, ?_⟩
        have ht := obm_tri hd (hv 0 (by omega)) (hv s (by omega)) (hv (s + 1) (Nat.le_refl _))
        refine ole_trans ?_ ht
        cases ec : obm f n n (v 0) (v s) with
        | none => rw [ec] at hw; exact hw.elim
        | some c =>
          rw [ec] at hw
          rw [eb]
          have : -w ≤ c := hw
          show -(a + w) ≤ c + b
          omega
end
/-- Are all arcs of a cycle critical? -/
def crAll (R : List (List Int)) (l : List Int) : Bool := (List.range l.length).all fun k => crB R (vx l k) (vx l ((k + 1) % l.length))
theorem crCycB_t {R : List (List Int)} {l : List Int} (h : cycB R l = true) : 1 ≤ l.length ∧ nodesB R.length l = true ∧ diffB l = true ∧ arW (ent R) l ≠ -1000000000000000 := by
  unfold cycB at h
  rw [Bool.and_eq_true, Bool.and_eq_true, Bool.and_eq_true] at h
  exact ⟨of_decide_eq_true h.1.1.1, h.1.1.2, h.1.2, of_decide_eq_true h.2⟩
/-- A cycle has the greatest mean exactly if all of its arcs are critical. -/
theorem crit_cyc {R : List (List Int)} (h1 : sqB R = true) (h2 : hasCyc (ent R) R.length = true) {l : List Int} (hl : cycB R l = true) :
    decide (meanR (aroundW R l) l.length = bestR (ent R) R.length) = crAll R l := by
  obtain ⟨n1, n2, hA⟩ := sq_sm h1
  obtain ⟨hnear, hS, hp⟩ := cr_t h1 h2
  obtain ⟨l1, hn, hdf, hf⟩ := crCycB_t hl
  have l2 := diffB_len hn hdf
  have hd := o_diag n2 hS hp
  obtain ⟨⟨b1, b2, b3, -⟩, -⟩ := bestR_best n2 hA h2
  have hsh := list_sh hA hnear l1 (by omega) hn
  rw [o_fin hf] at hsh
  have hsh : o (arW (crS R) l) = some ((bestR (ent R) R.length).2 * arW (ent R) l - (l.length : Int) * (bestR (ent R) R.length).1) := hsh
  have ho := list_owk hS l1 (by omega) hn
  have hlt : ∀ u, u % l.length < l.length := fun u => Nat.mod_lt _ (by omega)
  have hvn : ∀ u, vx l (u % l.length) < R.length := fun u => vx_lt hn (hlt u)
  have hmean : meanR (aroundW R l) l.length = bestR (ent R) R.length ↔ (bestR (ent R) R.length).2 * arW (ent R) l = (l.length : Int) * (bestR (ent R) R.length).1 := by
    rw [around_arW]
    have hb := rat_back (n := arW (ent R) l) (d := (l.length : Int)) (by omega)
    have hg := rat_gcd (n := arW (ent R) l) (d := (l.length : Int)) (by omega)
    have hpos := rat_pos (n := arW (ent R) l) (d := (l.length : Int)) (by omega)
    constructor
    · intro e
      have e1 : ratN (arW (ent R) l) l.length = (bestR (ent R) R.length).1 := congrArg Prod.fst e
      have e2 : ratD (arW (ent R) l) l.length = (bestR (ent R) R.length).2 := congrArg Prod.snd e
      rw [e1, e2] at hb
      rw [Int.mul_comm, ← hb]; ac_rfl
    · intro heq
      have e : ratN (arW (ent R) l) l.length * (bestR (ent R) R.length).2 = (bestR (ent R) R.length).1 * ratD (arW (ent R) l) l.length := by
        refine Int.eq_of_mul_eq_mul_left (a := (l.length : Int)) (by omega) ?_
        have e1 : (l.length : Int) * (ratN (arW (ent R) l) l.length * (bestR (ent R) R.length).2) = ratN (arW (ent R) l) l.length * l.length * (bestR (ent R) R.length).2 := by ac_rfl
        have e2 : (l.length : Int) * ((bestR (ent R) R.length).1 * ratD (arW (ent R) l) l.length) = (l.length : Int) * (bestR (ent R) R.length).1 * ratD (arW (ent R) l) l.length := by ac_rfl
        rw [e1, e2, hb, ← heq]; ac_rfl
      obtain ⟨e1, e2⟩ := lowest_eq hpos b1 hg b2 e
      exact Prod.ext e1 e2
  have hall : crAll R l = true ↔ ∀ u, u < l.length → omul (o (crS R (vx l ((u + 1) % l.length)) (vx l (u % l.length)))) (obm (fun i j => o (crS R i j)) R.length R.length (vx l (u % l.length)) (vx l ((u + 1) % l.length))) = some 0 := by
    unfold crAll
    rw [List.all_eq_true]
    constructor
    · intro h u hu
      have := h u (List.mem_range.2 hu)
      rw [← Nat.mod_eq_of_lt hu] at this
      rw [Nat.mod_add_mod] at this
      exact (crB_o h1 h2 (hvn _) (hvn _)).1 this
    · intro h u hu
      have hu := List.mem_range.1 hu
      have := (crB_o h1 h2 (hvn _) (hvn _)).2 (h u hu)
      rw [Nat.mod_eq_of_lt hu] at this
      exact this
  apply Bool.eq_iff_iff.2
  rw [decide_eq_true_eq, hmean, hall]
  constructor
  · intro e u hu
    refine arc_back hd (v := fun u => vx l (u % l.length)) (s := l.length) l1 (by show vx l _ = vx l _; rw [Nat.mod_self, Nat.zero_mod]) (fun u _ => hvn u) ?_ hu
    rw [← ho, hsh]
    show (0 : Int) ≤ _
    omega
  · intro h
    obtain ⟨w, ew, hw⟩ := crit_walk hd (fun u => vx l (u % l.length)) l.length (fun u _ => hvn u) h
    have hc : vx l (l.length % l.length) = vx l (0 % l.length) := by rw [Nat.mod_self, Nat.zero_mod]
    rw [hc, obm_self hd (hvn 0)] at hw
    have hw : -w ≤ 0 := hw
    have hle := owk_diag hd (fun u => vx l (u % l.length)) l.length (fun u _ => hvn u) hc
    rw [ew] at hle
    have hle : w ≤ 0 := hle
    rw [← ho, hsh] at ew
    have ew := Option.some.inj ew
    omega
def crAllK (R : List (List Int)) (l : List Int) (k : Nat) : Bool := (List.range k).all fun k => crB R (vx l k) (vx l (k + 1))
theorem crAllK_next (R : List (List Int)) (l : List Int) (k : Nat) : crAllK R l (k + 1) = (crAllK R l k && crB R (vx l k) (vx l (k + 1))) := by
  unfold crAllK; rw [List.range_succ, List.all_append]; simp
theorem crAllK_less {R : List (List Int)} {l : List Int} {k m : Nat} (h : crAllK R l k = false) (hk : k ≤ m) : crAllK R l m = false := by
  induction m with
  | zero => obtain rfl : k = 0 := by omega
            exact h
  | succ m ih =>
    by_cases e : k = m + 1
    · subst e; exact h
    · rw [crAllK_next, ih (by omega)]; rfl
theorem crAll_split {R : List (List Int)} {l : List Int} {m : Nat} (h : l.length = m + 1) : crAll R l = (crAllK R l m && crB R (vx l m) (vx l 0)) := by
  unfold crAll crAllK
  rw [h, List.range_succ, List.all_append]
  congr 1
  · apply Bool.eq_iff_iff.2
    rw [List.all_eq_true, List.all_eq_true]
    constructor
    · intro q u hu
      have := q u hu
      rw [Nat.mod_eq_of_lt (by have := List.mem_range.1 hu; omega)] at this
      exact this
    · intro q u hu
      have := q u hu
      rw [Nat.mod_eq_of_lt (by have := List.mem_range.1 hu; omega)]
      exact this
  · simp
/-! ### The set of arcs as it is filled -/
def upd2 (S : Nat → Nat → Bool) (f t a b : Nat) : Bool := (decide (a = f) && decide (b = t)) || S a b
def crP (R : List (List Int)) (s t f i : Nat) : Bool := crB R f i && (decide (i < s) || (decide (i = s) && decide (f < t)))
theorem crP_zero (R : List (List Int)) (f i : Nat) : crP R 0 0 f i = false := by unfold crP; simp
theorem crP_put {R : List (List Int)} {s t : Nat} (h : crB R t s = true) (f i : Nat) : upd2 (crP R s t) t s f i = crP R s (t + 1) f i := by
  unfold upd2 crP
  by_cases e : f = t ∧ i = s
  · obtain ⟨rfl, rfl⟩ := e
    simp [h]
  · have e1 : (decide (f = t) && decide (i = s)) = false := by
      by_cases a : f = t
      · by_cases b : i = s
        · exact absurd ⟨a, b⟩ e
        · simp [b]
      · simp [a]
    rw [e1, Bool.false_or]
    by_cases b : i = s
    · have a : f ≠ t := fun a => e ⟨a, b⟩
      have : decide (f < t) = decide (f < t + 1) := by
        by_cases k : f < t
        · rw [decide_eq_true k, decide_eq_true (by omega)]
        · rw [decide_eq_false k, decide_eq_false (by omega)]
      rw [this]
    · rw [decide_eq_false b]; simp
theorem crP_skip {R : List (List Int)} {s t : Nat} (h : crB R t s = false) (f i : Nat) : crP R s t f i = crP R s (t + 1) f i := by
  unfold crP
  by_cases e : f = t ∧ i = s
  · obtain ⟨rfl, rfl⟩ := e
    simp [h]
  · by_cases b : i = s
    · have a : f ≠ t := fun a => e ⟨a, b⟩
      have : decide (f < t) = decide (f < t + 1) := by
        by_cases k : f < t
        · rw [decide_eq_true k, decide_eq_true (by omega)]
        · rw [decide_eq_false k, decide_eq_false (by omega)]
      rw [this]
    · rw [decide_eq_false b]; simp
theorem crP_row {R : List (List Int)} {s n : Nat} {f i : Nat} (hf : f < n) : crP R s n f i = crP R (s + 1) 0 f i := by
  unfold crP
  congr 1
  by_cases a : i < s
  · simp [a, Nat.lt_succ_of_lt a]
  · by_cases b : i = s
    · subst b; simp [hf]
    · have : ¬ i < s + 1 := by omega
      simp [a, b, this]
theorem crP_end {R : List (List Int)} {n f i : Nat} (hi : i < n) : crP R n 0 f i = crB R f i := by unfold crP; simp [hi]
/-! ### The results -/
def arcRow (R : List (List Int)) (j k : Nat) : List (List Int) := (List.range k).flatMap fun i => if crB R j i then [[(j : Int), (i : Int)]] else []
def arcsP (R : List (List Int)) (k : Nat) : List (List Int) := (List.range k).flatMap fun j => arcRow R j R.length
def arcsL (R : List (List Int)) : List (List Int) := arcsP R R.length
def arcsRes (R : List (List Int)) : List (List Int) × Int := if crCode R = 0 then (arcsL R, 0) else ([], crCode R)
theorem arcRow_next (R : List (List Int)) (j k : Nat) : arcRow R j (k + 1) = arcRow R j k ++ (if crB R j k then [[(j : Int), (k : Int)]] else []) := by
  unfold arcRow; rw [List.range_succ, List.flatMap_append]; simp
theorem arcsP_next (R : List (List Int)) (k : Nat) : arcsP R (k + 1) = arcsP R k ++ arcRow R k R.length := by
  unfold arcsP; rw [List.range_succ, List.flatMap_append]; simp
theorem arcRow_len (R : List (List Int)) (j k : Nat) : (arcRow R j k).length ≤ k := by
  induction k with
  | zero => simp [arcRow]
  | succ k ih => rw [arcRow_next, List.length_append]; split <;> simp <;> omega
theorem arcsP_len (R : List (List Int)) (k : Nat) : (arcsP R k).length ≤ k * R.length := by
  induction k with
  | zero => simp [arcsP]
  | succ k ih =>
    rw [arcsP_next, List.length_append, Nat.succ_mul]
    have := arcRow_len R k R.length
    omega
def crN (R : List (List Int)) (j : Nat) : Bool := (List.range R.length).any fun i => crB R j i
def nodesP (R : List (List Int)) (k : Nat) : List Int := ((List.range k).filter (crN R)).map fun i : Nat => (i : Int)
def nodesL (R : List (List Int)) : List Int := nodesP R R.length
def nodesRes (R : List (List Int)) : List Int × Int := if crCode R = 0 then (nodesL R, 0) else ([], crCode R)
def crF (R : List (List Int)) (i j : Nat) : Int := if crB R j i then ent R i j else -1000000000000000
def crM (R : List (List Int)) : List (List Int) := mk R.length R.length (crF R)
def matRes (R : List (List Int)) : List (List Int) × Int := if crCode R = 0 then (crM R, 0) else ([], crCode R)
def isCritRes (R : List (List Int)) (l : List Int) : Bool × Int := if crCode R = 0 then (cycB R l && crAll R l, 0) else (false, crCode R)
def crComps (R : List (List Int)) : List (List Int) := (compsL (ent (crM R)) R.length).filter fun l => crN R (vx l 0)
def compRes (R : List (List Int)) : List (List Int) × Int := if crCode R = 0 then (crComps R, 0) else ([], crCode R)
end M
end Go.Proofs.Ytmobcobdpemlnaa

namespace Go.Proofs.Ytmobcobdpemlnaa
namespace M
theorem up_sub (R : List (List Int)) (v : Nat) : ∀ i j, i < R.length → j < R.length → ent (mk R.length R.length (upF (ent R) R.length v)) i j = ent R i j ∨ ent (mk R.length R.length (upF (ent R) R.length v)) i j = -1000000000000000 := fun i j hi hj => by
  rw [ent_mk _ _ _ _ _ hi hj]
  unfold upF
  split
  · exact .inl rfl
  · exact .inr rfl
/-- No upstream mean is greater than the cycle mean. -/
theorem up_cmp {R : List (List Int)} {x : Int} (h : (upRes R x).2 = 0) (hc : (cycMeanRes R).2 = 0) :
    (cmpOf (upRes R x).1.1 (upRes R x).1.2 (cycMeanRes R).1.1 (cycMeanRes R).1.2).2 = 0 ∧ (cmpOf (upRes R x).1.1 (upRes R x).1.2 (cycMeanRes R).1.1 (cycMeanRes R).1.2).1 ≤ 0 := by
  obtain ⟨k1, k2, k3, k4⟩ := cyc_t hc
  obtain ⟨n1, n2, hA⟩ := sq_sm k1
  unfold upRes at h ⊢
  rw [if_pos k1] at h ⊢
  by_cases hx : inN R.length x = true
  · rw [if_pos hx] at h ⊢
    obtain ⟨g1, g2, g3, g4⟩ := cyc_t h
    rw [mk_length] at g2 g3 g4
    have hle := sub_le n2 hA (up_sub R x.toNat) g2
    rw [g4, k4]
    unfold cmpOf
    dsimp only
    rw [g3, k3, if_pos (by rfl)]
    refine ⟨rfl, ?_⟩
    show cmpZ _ _ ≤ 0
    unfold cmpZ
    split
    · omega
    · rw [if_neg (by omega)]; omega
  · rw [if_neg hx] at h; simp at h
/-- The upstream mean of a node of the best cycle is the cycle mean. -/
theorem up_best {R : List (List Int)} (hc : (cycMeanRes R).2 = 0) : upRes R ((bestCyc R).getD 0 0) = cycMeanRes R := by
  obtain ⟨k1, k2, k3, k4⟩ := cyc_t hc
  obtain ⟨n1, n2, hA⟩ := sq_sm k1
  obtain ⟨q1, q2, q3, q4⟩ := best_cyc k1 k2
  have hn : nodesB R.length (bestCyc R) = true ∧ aroundW R (bestCyc R) ≠ -1000000000000000 := by
    unfold cycB at q1
    rw [Bool.and_eq_true, Bool.and_eq_true, Bool.and_eq_true] at q1
    exact ⟨q1.1.1.2, of_decide_eq_true q1.2⟩
  obtain ⟨hn, hf⟩ := hn
  have hat := nodesB_at hn (k := 0) (by omega)
  have hlt := vx_lt hn (k := 0) (by omega)
  obtain ⟨c, hcv⟩ : ∃ c, c = vx (bestCyc R) 0 := ⟨_, rfl⟩
  have e0 : ((bestCyc R).getD 0 0).toNat = c := hcv.symm
  have hin : inN R.length ((bestCyc R).getD 0 0) = true := by
    unfold inN; rw [decide_eq_true hat.1, decide_eq_true hat.2]; rfl
  unfold upRes
  rw [if_pos k1, if_pos hin, e0]
  generalize bestCyc R = q at *
  have hvn : ∀ u, vx q (u % q.length) < R.length := fun u => vx_lt hn (Nat.mod_lt _ (by omega))
  have ho := list_owk (A := ent R) (fun i j hi hj => sm_wide (hA i j hi hj)) q3 (by omega) hn
  rw [← around_arW, o_fin hf] at ho
  have hcl : vx q (q.length % q.length) = vx q (0 % q.length) := by rw [Nat.mod_self, Nat.zero_mod]
  have harc := owk_arc (A := ent R) (v := fun u => vx q (u % q.length)) (s := q.length) (by rw [← ho]; simp)
  obtain ⟨e1, e2⟩ := sub_same (A := ent R) (A' := ent (mk R.length R.length (upF (ent R) R.length c))) n2 hA (up_sub R c) (v := fun u => vx q (u % q.length)) (s := q.length) (w := aroundW R q) q3 hcl (fun u _ => hvn u) ho.symm (by
    have hb := rat_back (n := aroundW R q) (d := (q.length : Int)) (by omega)
    have e1 : ratN (aroundW R q) q.length = (bestR (ent R) R.length).1 := congrArg Prod.fst q2
    have e2 : ratD (aroundW R q) q.length = (bestR (ent R) R.length).2 := congrArg Prod.snd q2
    rw [e1, e2] at hb
    rw [Int.mul_comm, ← hb]; ac_rfl) (fun u hu => by
    show ent (mk R.length R.length (upF (ent R) R.length c)) (vx q ((u + 1) % q.length)) (vx q (u % q.length)) = _
    rw [ent_mk _ _ _ _ _ (hvn _) (hvn _)]
    have hr : rchB (ent R) R.length (vx q ((u + 1) % q.length)) c = true := by
      refine rchB_t.2 ⟨q.length - (u + 1), fun t => vx q ((u + 1 + t) % q.length), rfl, ?_, fun t _ => hvn _, fun t ht => ?_⟩
      · show vx q ((u + 1 + (q.length - (u + 1))) % q.length) = c
        rw [show u + 1 + (q.length - (u + 1)) = q.length by omega, Nat.mod_self, hcv]
      · exact harc (u + 1 + t) (by omega)
    unfold upF
    rw [if_pos hr])
  have hup := up_val k1 c
  unfold cycMeanRes
  rw [sq_mk n1 n2 hup, mk_length, k1, e1, e2, k2]
/-- The nodes of a component reach each other. -/
theorem comp_rch {A : Nat → Nat → Int} {n : Nat} {l : List Int} (hl : l ∈ compsL A n) {i j : Nat} (hi : i < l.length) (hj : j < l.length) :
    ∃ x y : Nat, x < n ∧ y < n ∧ l.getD i 0 = x ∧ l.getD j 0 = y ∧ rchB A n x y = true ∧ rchB A n y x = true := by
  obtain ⟨v, hv, -, rfl⟩ := mem_compsP.1 hl
  obtain ⟨x, hx, rx, ex⟩ := compL_at hi
  obtain ⟨y, hy, ry, ey⟩ := compL_at hj
  obtain ⟨a1, a2⟩ := relB_t.1 rx
  obtain ⟨b1, b2⟩ := relB_t.1 ry
  exact ⟨x, y, hx, hy, ex, ey, rchB_t.2 (rch_trans a2 b1), rchB_t.2 (rch_trans b2 a1)⟩
end M
end Go.Proofs.Ytmobcobdpemlnaa

namespace Go.Proofs.Ytmobcobdpemlnaa
namespace M
theorem filter_ids (L : List (List Int)) (p : List Int → Bool) : ((List.range L.length).filter fun i => p (L.getD i [])).map (fun i => L.getD i []) = L.filter p := by
  have h : (List.range L.length).map (fun i => L.getD i []) = L := by
    apply List.ext_getElem
    · simp
    · intro k k1 k2
      simp only [List.getElem_map, List.getElem_range]
      rw [List.getD_eq_getElem?_getD, List.getElem?_eq_getElem k2, Option.getD_some]
  conv => rhs; rw [← h]
  rw [List.filter_map]
  rfl
/-- The chosen places among the first k. -/
def idsK (L : List (List Int)) (p : List Int → Bool) (k : Nat) : List Nat := (List.range k).filter fun i => p (L.getD i [])
theorem idsK_next (L : List (List Int)) (p : List Int → Bool) (k : Nat) : idsK L p (k + 1) = idsK L p k ++ (if p (L.getD k []) then [k] else []) := by
  unfold idsK
  rw [List.range_succ, List.filter_append]
  congr 1
  by_cases h : p (L.getD k []) = true
  · rw [if_pos h]; rw [List.getD_eq_getElem?_getD] at h; simp [h]
  · rw [if_neg h]; rw [List.getD_eq_getElem?_getD] at h; simp [h]
theorem idsK_len (L : List (List Int)) (p : List Int → Bool) (k : Nat) : (idsK L p k).length ≤ k := by
  unfold idsK
  exact Nat.le_trans (List.length_filter_le _ _) (by simp)
theorem idsK_lt {L : List (List Int)} {p : List Int → Bool} {k i : Nat} (h : i ∈ idsK L p k) : i < k := List.mem_range.1 (List.mem_filter.1 h).1
theorem idsK_up (L : List (List Int)) (p : List Int → Bool) (k : Nat) : (idsK L p k).Pairwise (fun x y => x < y) := List.Pairwise.filter _ List.pairwise_lt_range
end M
namespace V
open Go.RowKit
theorem own_move {w w' : World} {B B' : Nat} {rv : Value} {l : List Int} (h : Own w B rv l) (hk : ∀ k, rv.ownBlock = some k → w'.heap[k]? = w.heap[k]? ∧ B' ≤ k) : Own w' B' rv l := by
  obtain ⟨h1, h2⟩ := h
  rcases h2 with h2 | ⟨g, cap, cur, e, hB, hh, r⟩
  · exact ⟨h1, .inl h2⟩
  · obtain ⟨k1, k2⟩ := hk g (by rw [e]; rfl)
    exact ⟨h1, .inr ⟨g, cap, cur, e, k2, by rw [k1]; exact hh, r⟩⟩
theorem getD_map_nat {α : Type} (f : Nat → α) (ids : List Nat) (d : α) (i : Nat) (hi : i < ids.length) : (ids.map f).getD i d = f ids[i] := by
  rw [List.getD_eq_getElem?_getD, List.getElem?_map, List.getElem?_eq_getElem hi]
  rfl
theorem OwnV.pick {w w' : World} {B B' : Nat} {v v' : Value} {R : List (List Int)} {V : List Value} (h : OwnV w B v R V) (ids : List Nat) (hid : ids.Pairwise (fun x y => x < y)) (hlt : ∀ i, i ∈ ids → i < R.length)
    (ho : w'.ownsRow B' 26 1 v' ids.length (ids.map fun i => V.getD i (.slice none 0 0)))
    (hk : ∀ i k, i < R.length → (V.getD i (.slice none 0 0)).ownBlock = some k → w'.heap[k]? = w.heap[k]? ∧ B' ≤ k ∧ v'.ownBlock ≠ some k) :
    OwnV w' B' v' (ids.map fun i => R.getD i []) (ids.map fun i => V.getD i (.slice none 0 0)) := by
  obtain ⟨h1, h2, h3, h4, h5⟩ := h
  have hl : (ids.map fun i => R.getD i []).length = ids.length := by simp
  refine ⟨by simp, by rw [hl]; exact ho, fun i hi => ?_, fun i hi k e => ?_, fun i j hi hj hne k e => ?_⟩
  · rw [hl] at hi
    rw [getD_map_nat _ _ _ _ hi, getD_map_nat _ _ _ _ hi]
    have hm := hlt _ (List.getElem_mem hi)
    exact own_move (h3 _ hm) fun k e => ⟨(hk _ k hm e).1, (hk _ k hm e).2.1⟩
  · rw [hl] at hi
    rw [getD_map_nat _ _ _ _ hi] at e
    exact (hk _ k (hlt _ (List.getElem_mem hi)) e).2.2
  · rw [hl] at hi hj
    rw [getD_map_nat _ _ _ _ hi] at e
    rw [getD_map_nat _ _ _ _ hj]
    refine h5 _ _ (hlt _ (List.getElem_mem hi)) (hlt _ (List.getElem_mem hj)) (fun q => ?_) k e
    rcases Nat.lt_or_gt_of_ne hne with hij | hij
    · have := List.pairwise_iff_getElem.1 hid i j hi hj hij; omega
    · have := List.pairwise_iff_getElem.1 hid j i hj hi hij; omega
theorem OwnV.keep {w w' : World} {B : Nat} {v : Value} {R : List (List Int)} {V : List Value} (h : OwnV w B v R V) (hk : ∀ k, B ≤ k → k < w.heap.size → w'.heap[k]? = w.heap[k]?) : OwnV w' B v R V := by
  obtain ⟨h1, h2, h3, h4, h5⟩ := h
  exact ⟨h1, ownsRow_keep h2 (fun k hv => hk k (own_lt h2 hv).1 (own_lt h2 hv).2), fun i hi => (h3 i hi).keep hk, h4, h5⟩
theorem OwnV.below {w w' : World} {B : Nat} {v : Value} {R : List (List Int)} {V : List Value} (h : OwnV w B v R V) (hb : Below w.heap.size w w') : OwnV w' B v R V := h.keep (fun k _ h2 => hb.block k h2)
theorem row_lit0 (w : World) (B : Nat) (hB : B ≤ w.heap.size) : (w.alloc (.cells #[] 26)).ownsRow B 26 1 (.slice (some ⟨w.heap.size, 0, none⟩) 0 0) 0 [] := by
  obtain ⟨V, h1, h2, -⟩ := ownM_lit0 w B hB
  obtain rfl : V = [] := List.eq_nil_of_length_eq_zero h1
  exact h2
/-- One row of an owned matrix, with its value. -/
theorem OwnV.cell {w : World} {B : Nat} {a : Option Addr} {n cap : Nat} {R : List (List Int)} {V : List Value} (h : OwnV w B (.slice a n cap) R V) (i : Nat) (hi : i < n) :
    ∃ g ra rc, a = some ⟨g, 0, none⟩ ∧ V.getD i (.slice none 0 0) = .slice ra (R.getD i []).length rc ∧ w.cell? ⟨g, i, none⟩ = some (.slice ra (R.getD i []).length rc) ∧ Ints .i64 w ra (R.getD i []).length (R.getD i []) := by
  obtain ⟨h1, h2, h3, h4, h5⟩ := h
  obtain ⟨a', c', hv, hc, hm, hg⟩ := own_form h2
  injection hv with e1 e2 e3
  subst e1 e2 e3
  obtain ⟨g, rfl, hB, hlt⟩ := hg (by omega)
  obtain ⟨ra, rc, hv, hI⟩ := (h3 i hi).ints
  refine ⟨g, ra, rc, rfl, hv, ?_, hI⟩
  have := World.ownsRow.cellAt h2 i (by omega)
  rw [this, ← hv]
  simp [h1, hi]
theorem appendVal (w : World) {ops : Array Oper} {rest : List Oper} {o : Oper} {a : Act} {Q : Exit → Act → World → Prop} (hgd : o.guard = none) (s x : Operand)
    (ho : o.op = .call { callee := .builtin .append, args := #[s, x], argTypes := #[24, 24] }) (B : Nat) (v : Value) (V : List Value) (ra : Option Addr) (L rc n : Nat) (hs : a.eval s = v) (hown : w.ownsRow B 26 1 v n V)
    (hx : a.eval x = .slice (some ⟨w.heap.size, 0, none⟩) 1 1) (hlen : n ≤ 2000000) (hB : B ≤ w.heap.size)
    (h : ∀ b' c' w', w'.ownsRow B 26 1 (.slice b' (n + 1) c') (n + 1) (V ++ [.slice ra L rc]) → Below B w w' → (∀ k, k < w.heap.size → v.ownBlock ≠ some k → w'.heap[k]? = w.heap[k]?) → wpList Try.prog ops Q rest (a.put o.dst (.slice b' (n + 1) c')) w') :
    wpList Try.prog ops Q (o :: rest) a (w.alloc (.cells #[.slice ra L rc] 26)) := by
  obtain ⟨i0, hi, hz0, hz1, hz2⟩ := info_parts infoS64
  have hown2 : (w.alloc (.cells #[.slice ra L rc] 26)).ownsRow B 26 1 v n V := World.ownsRow.alloc hown _
  have hVl : V.length = n := by have := hown.1; omega
  refine wpList_append_own_at (w := w.alloc (.cells #[.slice ra L rc] 26)) hgd s x 24 ho B 26 i0 (.slice none 0 0) 1 24 Try.underlying24 hi hz0 hz1 hz2 rfl (by decide) v _ _ hs hown2 ⟨w.heap.size, 0, none⟩ 1 1 [.slice ra L rc] hx rfl (cell_one_new _ _ _) ?c2 ?c3 ?c4 ?c5 ?_
  case c2 => intro u hu; simp at hu; subst hu; rfl
  case c3 => unfold maxLen; omega
  case c4 => omega
  case c5 => simp; omega
  · intro v' w' hown' hgrow hz hvb
    have ho' : w'.ownsRow B 26 1 v' (n + 1) (V ++ [.slice ra L rc]) := by simpa using hown'
    obtain ⟨b', c', hv', _⟩ := own_form ho'
    subst hv'
    refine h b' c' w' ho' (((Below.refl B w).alloc hB _).grown hgrow (by simp; omega) (fun k hk => (own_lt hown hk).1)) (fun k hk hne => ?_)
    obtain ⟨g1, g2, g3, g4, g5⟩ := hgrow
    rw [g5 k (by simp; omega) (fun e => hne e.symm), Below.heap_alloc _ _ _ hk]
end V
end Go.Proofs.Ytmobcobdpemlnaa

namespace Go.Proofs.Ytmobcobdpemlnaa
namespace M
/-- The part whose first k rows are done, and of row k the first t entries. -/
def pq (R : List (List Int)) (l : List Int) (k t : Nat) : List (List Int) := (List.range l.length).map fun i => if i < k then (List.range l.length).map (fun j => partF R l i j) else if i = k then (List.range t).map (fun j => partF R l i j) else []
theorem pq_len (R : List (List Int)) (l : List Int) (k t : Nat) : (pq R l k t).length = l.length := by simp [pq]
theorem pq_zero (R : List (List Int)) (l : List Int) : pq R l 0 0 = List.replicate l.length [] := by
  unfold pq
  apply List.ext_getElem
  · simp
  · intro i h1 h2
    simp
theorem pq_all (R : List (List Int)) (l : List Int) : pq R l l.length 0 = partQ R l := by
  unfold pq partQ mk
  apply List.map_congr_left
  intro i hi
  rw [if_pos (List.mem_range.1 hi)]
theorem pq_row {R : List (List Int)} {l : List Int} {k t : Nat} (hk : k < l.length) : (pq R l k t).getD k [] = (List.range t).map fun j => partF R l k j := by
  unfold pq
  simp [hk]
theorem pq_next {R : List (List Int)} {l : List Int} {k : Nat} : pq R l k l.length = pq R l (k + 1) 0 := by
  unfold pq
  apply List.map_congr_left
  intro i hi
  by_cases h : i < k
  · rw [if_pos h, if_pos (by omega)]
  · by_cases e : i = k
    · rw [if_neg h, if_pos e, if_pos (by omega)]
    · rw [if_neg h, if_neg e, if_neg (by omega)]
      split <;> simp
theorem pq_set {R : List (List Int)} {l : List Int} {k t : Nat} (hk : k < l.length) : (pq R l k t).set k ((pq R l k t).getD k [] ++ [partF R l k t]) = pq R l k (t + 1) := by
  rw [pq_row hk]
  unfold pq
  apply List.ext_getElem
  · simp
  · intro i h1 h2
    simp only [List.length_set, List.length_map, List.length_range] at h1
    rw [List.getElem_set]
    by_cases e : k = i
    · subst e
      simp [List.range_succ]
    · rw [if_neg e]
      simp only [List.getElem_map, List.getElem_range]
      by_cases h : i < k
      · rw [if_pos h, if_pos h]
      · rw [if_neg h, if_neg h, if_neg (Ne.symm e), if_neg (Ne.symm e)]
end M
namespace V
set_option maxRecDepth 100000
open Go.RowKit
theorem step_append3 (w : World) {ops : Array Oper} {o : Oper} {a : Act} {K : Act → World → Prop} {Q : Exit → Act → World → Prop} {E : Prop} (hgd : o.guard = none) (s x : Operand)
    (ho : o.op = .call { callee := .builtin .append, args := #[s, x], argTypes := #[26, 26] }) (B : Nat) (v : Value) (l : List Int) (y : Int) (g n : Nat) (hn : l.length = n) (hs : a.eval s = v) (hown : Own w B v l)
    (hx : a.eval x = .slice (some ⟨g, 0, none⟩) 1 1) (hy : w.cell? ⟨g, 0, none⟩ = some (.int .i64 y)) (hlen : n ≤ 2000000) (hB : B ≤ w.heap.size)
    (h : ∀ b' c' w', Own w' B (.slice (some ⟨b', 0, none⟩) (n + 1) c') (l ++ [y]) → Below B w w' → (∀ k, k < w.heap.size → v.ownBlock ≠ some k → w'.heap[k]? = w.heap[k]?) → (v.ownBlock = some b' ∨ b' = w.heap.size) → K (a.put o.dst (.slice (some ⟨b', 0, none⟩) (n + 1) c')) w') :
    if Region.wanted o (yielded ops a.tmps) = true then Oper.wp Try.prog o a w K Q else E := by
  subst hn
  obtain ⟨i0, hi, hz0, hz1, hz2⟩ := info_parts info64
  refine step_append_lies w hgd s x 26 ho B 2 i0 (.int .i64 0) 1 8 Try.underlying26 hi hz0 hz1 hz2 rfl (by decide) v l.length (l.map (Value.int .i64)) hs hown ⟨g, 0, none⟩ 1 1 [.int .i64 y] hx rfl ?c1 ?c2 (by decide) ?c3 ?c4 hB w.heap.size rfl ?_
  case c1 =>
    intro j u hj
    have : j = 0 := by
      cases j with
      | zero => rfl
      | succ j => simp at hj
    subst this
    simp at hj
    subst hj
    exact hy
  case c2 => intro u hu; simp at hu; subst hu; rfl
  case c3 => unfold maxLen; omega
  case c4 => omega
  · intro g' cap' w' hown' hgrow hat hlt
    have ho' : Own w' B (.slice (some ⟨g', 0, none⟩) (l.length + 1) cap') (l ++ [y]) := by
      show w'.ownsRow B _ 1 _ (l ++ [y]).length ((l ++ [y]).map (Value.int .i64))
      simpa using hown'
    refine h _ _ w' ho' ((Below.refl B w).grown hgrow hB (fun k hk => (own_lt hown hk).1)) (fun k hk hne => ?_) hat
    obtain ⟨g1, g2, g3, g4, g5⟩ := hgrow
    exact g5 k hk (fun e => hne e.symm)
/-- One more entry behind a row that lies in its own block, or in a new one. -/
theorem OwnV.appRow {w w1 : World} {B g n cap q m c : Nat} {R : List (List Int)} {V : List Value} {l : List Int} (h : OwnV w B (.slice (some ⟨g, 0, none⟩) n cap) R V) (i : Nat) (hi : i < n) (ho : Own w1 B (.slice (some ⟨q, 0, none⟩) m c) l)
    (hk : ∀ k, k < w.heap.size → (V.getD i (.slice none 0 0)).ownBlock ≠ some k → w1.heap[k]? = w.heap[k]?) (hat : (V.getD i (.slice none 0 0)).ownBlock = some q ∨ w.heap.size ≤ q) :
    OwnM (w1.setCell ⟨g, i, none⟩ (.slice (some ⟨q, 0, none⟩) m c)) B (.slice (some ⟨g, 0, none⟩) n cap) (R.set i l) := by
  obtain ⟨h1, h2, h3, h4, h5⟩ := h
  obtain ⟨a', c', hv, hc, hm, hg⟩ := own_form h2
  injection hv with e1 e2 e3
  subst e2 e3
  have hgl := own_lt h2 (k := g) rfl
  have hqg : q ≠ g := by
    rcases hat with e | e
    · intro e2; subst e2; exact h4 i hi q e rfl
    · omega
  have hw1 : w1.ownsRow B 26 1 (.slice (some ⟨g, 0, none⟩) R.length cap) R.length V := ownsRow_keep h2 (fun k hv => hk k (own_lt h2 hv).2 (fun e => h4 i hi k e hv))
  refine ⟨V.set i (.slice (some ⟨q, 0, none⟩) m c), by simpa using h1, ?_, ?_, ?_, ?_⟩
  · have := (World.ownsRow.stored hw1 i (.slice (some ⟨q, 0, none⟩) m c)).1
    simpa using this
  · intro j hj
    simp only [List.length_set] at hj
    rw [getD_set _ _ _ _ _ (by omega), getD_set _ _ _ _ _ (by omega)]
    by_cases e : j = i
    · rw [if_pos e, if_pos e]
      exact ownsRow_keep ho (fun k hv => Below.heap_setCell _ _ _ _ (by
        simp only [Value.ownBlock, Option.some.injEq] at hv
        show k ≠ g
        omega))
    · rw [if_neg e, if_neg e]
      refine ownsRow_keep (h3 j hj) (fun k hv => ?_)
      have hkg : k ≠ g := fun e => h4 j hj k hv (by rw [e]; rfl)
      rw [Below.heap_setCell _ _ _ _ hkg]
      exact hk k (own_lt (h3 j hj) hv).2 (h5 j i hj hi e k hv)
  · intro j hj k hk'
    simp only [List.length_set] at hj
    rw [getD_set _ _ _ _ _ (by omega)] at hk'
    by_cases e : j = i
    · rw [if_pos e] at hk'
      intro e2
      simp only [Value.ownBlock, Option.some.injEq] at e2 hk'
      omega
    · rw [if_neg e] at hk'
      exact h4 j hj k hk'
  · intro j t hj ht hne k hk'
    simp only [List.length_set] at hj ht
    rw [getD_set _ _ _ _ _ (by omega)] at hk'
    rw [getD_set _ _ _ _ _ (by omega)]
    by_cases e : j = i
    · rw [if_pos e] at hk'
      have e' : ¬ t = i := by omega
      rw [if_neg e']
      intro e2
      simp only [Value.ownBlock, Option.some.injEq] at hk'
      subst hk'
      rcases hat with e3 | e3
      · exact h5 i t hi ht (fun x => e' x.symm) q e3 e2
      · have := (own_lt (h3 t ht) e2).2
        omega
    · rw [if_neg e] at hk'
      by_cases e' : t = i
      · rw [if_pos e']
        intro e2
        simp only [Value.ownBlock, Option.some.injEq] at e2
        subst e2
        rcases hat with e3 | e3
        · exact h5 i j hi hj (fun x => e x.symm) q e3 hk'
        · have := (own_lt (h3 j hj) hk').2
          omega
      · rw [if_neg e']
        exact h5 j t hj ht hne k hk'
set_option maxRecDepth 100000 in
set_option maxHeartbeats 4000000 in
theorem partOf (a : Option Addr) (n cap : Nat) (R : List (List Int)) (a' : Option Addr) (m c' : Nat) (l : List Int) (w : World) (h : Mat w a n R) (hr : Rect R n n) (hI : Ints .i64 w a' m l) (hm : m ≤ 10) (hl : M.ndsB n l = true) :
    Calls Try.prog 64 #[.slice a n cap, .slice a' m c'] w (MPost m (M.partQ R l) w) := by
  have HA := Lib.hid h
  have HR := Lib.hid hr
  have HI := Lib.hid hI
  have HLn : Hid (l.length = m) := hI.1
  have HNd : Hid (∀ i, i < m → ∃ k : Nat, l.getD i 0 = (k : Int) ∧ k < n) := fun i hi => M.ndsB_t hl (by rw [HLn.out]; exact hi)
  have hmk := run_make_row' (P := Try.prog) 24 26 (.slice none 0 0) 24 Try.underlying24 infoS64 rfl .i64 .i64 m (by omega) (by omega)
  have HO0 : Hid (OwnM (w.alloc (.cells (madeCells #[.slice none 0 0] m) 26)) w.heap.size (.slice (some ⟨w.heap.size, 0, none⟩) m m) (M.pq R l 0 0)) := by
    rw [M.pq_zero, HLn.out]; exact ownM_made w _ m (Nat.le_refl _) (by unfold maxLen; omega)
  have HB0 : Hid (Below w.heap.size w (w.alloc (.cells (madeCells #[.slice none 0 0] m) 26))) := b_alloc w _
  clear h hr hI hl
  go_enter Try.func64, Try.ntmps64
  go_wp2
  go_loopw [15] (fun kv wr => ∃ k : Nat, k ≤ m ∧ kv = .int .i64 k ∧ Hid (OwnM wr w.heap.size (.slice (some ⟨w.heap.size, 0, none⟩) m m) (M.pq R l k 0)) ∧ Hid (Below w.heap.size w wr)) (fun kv _ => m - (intOf kv).toNat)
  case atStart => exact ⟨0, Nat.zero_le _, rfl, HO0, HB0⟩
  case round =>
    obtain ⟨k, hk, rfl, HO, HB⟩ := hrel
    obtain ⟨wo, rfl⟩ : ∃ x, x = wr := ⟨_, rfl⟩
    clear HO0 HB0
    by_cases hkl : k < m
    · have hki : (k : Int) < (m : Int) := by omega
      obtain ⟨i, hi, hin⟩ := HNd.out k hkl
      obtain ⟨nb, no, x0, rfl, -, hx0, hcx⟩ := (HI.out.below HB.out).at k hkl
      rw [hi] at hx0
      subst hx0
      go_wp2
      go_loopw [22] (fun tv wr => ∃ t : Nat, t ≤ m ∧ tv = .int .i64 t ∧ Hid (OwnM wr w.heap.size (.slice (some ⟨w.heap.size, 0, none⟩) m m) (M.pq R l k t)) ∧ Hid (Below w.heap.size w wr)) (fun tv _ => m - (intOf tv).toNat)
      case atStart => exact ⟨0, Nat.zero_le _, rfl, HO, HB⟩
      case round =>
        obtain ⟨t, ht, rfl, HO, HB⟩ := hrel
        obtain ⟨wi, rfl⟩ : ∃ x, x = wr := ⟨_, rfl⟩
        by_cases htl : t < m
        · have hti : (t : Int) < (m : Int) := by omega
          have hii : (i : Int) < (n : Int) := by omega
          obtain ⟨j, hj, hjn⟩ := HNd.out t htl
          obtain ⟨nb2, no2, x1, hnb, -, hx1, hcx1⟩ := (HI.out.below HB.out).at t htl
          injection hnb with hnb
          injection hnb with e1 e2
          subst e1 e2
          rw [hj] at hx1
          subst hx1
          have hji : (j : Int) < (n : Int) := by omega
          obtain ⟨ab, ao, rb, ro, rc, x, rfl, hx, ca, cx⟩ := (HA.out.below HB.out).rect_ent HR.out i j hin hjn
          have hxe : x = M.partF R l k t := by unfold M.partF; rw [hi, hj, Int.toNat_natCast, Int.toNat_natCast]; exact hx
          obtain ⟨V, hV⟩ := HO.out
          obtain ⟨g', ra, rc2, hg', hVk, hck, hIk⟩ := hV.cell k hkl
          have hVr := hV.2.2.1 k (by rw [M.pq_len, HLn.out]; exact hkl)
          rw [hVk] at hVr
          have hrl : ((M.pq R l k t).getD k []).length = t := by rw [M.pq_row (by rw [HLn.out]; exact hkl)]; simp
          rw [hrl] at hVk hck hVr
          injection hg' with hg'
          injection hg' with hg'
          subst hg'
          have hS := M.pq_set (R := R) (l := l) (k := k) (t := t) (by rw [HLn.out]; exact hkl)
          rw [← hxe] at hS
          obtain ⟨rl, hrw⟩ : ∃ r, r = (M.pq R l k t).getD k [] := ⟨_, rfl⟩
          rw [← hrw] at hS hVr hrl
          have hgl := HO.out.lt rfl
          have hfz := HO.out.outerFz k
          have HV4 : Hid ((Value.slice ra t rc2).ownBlock ≠ some w.heap.size) := fun e => hV.2.2.2.1 k (by rw [M.pq_len, HLn.out]; exact hkl) _ (by rw [hVk]; exact e) rfl
          have HV := Lib.hid hV
          have HVr := Lib.hid hVr
          have HVk := Lib.hid hVk
          have HS := Lib.hid hS
          have HRl := Lib.hid hrl
          have hszw := HB.out.size
          clear hV hVr hVk hS hIk hx hxe hrl hrw
          go_wp2
          go_region_law (refine step_append3 _ rfl (.tmp 31) (.tmp 39) rfl w.heap.size (.slice ra t rc2) rl x wi.heap.size t HRl.out rfl (HVr.out.below ((b_alloc wi (.cells #[.int .i64 x] 2)).drew)) rfl (by simp [go_sem]) (by omega) (by simp; omega) ?_; intro b' c2 w2 ho2 hb2 hk2 hat2; have HK2 : Hid (∀ k, k < wi.heap.size → (Value.slice ra t rc2).ownBlock ≠ some k → w2.heap[k]? = wi.heap[k]?) := (fun kk q1 q2 => (hk2 kk (by simp; omega) q2).trans (Below.heap_alloc wi _ _ q1)); have g0 := (World.cell?_of_block (a := ⟨w.heap.size, k, none⟩) (HK2.out _ hgl HV4.out)).trans hck; have g1 := (World.frozen?_of_block (a := ⟨w.heap.size, k, none⟩) (HK2.out _ hgl HV4.out)).trans hfz; clear hk2)
          all_goals
            have hat3 : (Value.slice ra t rc2).ownBlock = some b' ∨ wi.heap.size ≤ b' := by
              rcases hat2 with e | e
              · exact .inl e
              · exact .inr (by simp at e; omega)
            have HN : Hid (OwnM (w2.setCell ⟨w.heap.size, k, none⟩ (.slice (some ⟨b', 0, none⟩) (t + 1) c2)) w.heap.size (.slice (some ⟨w.heap.size, 0, none⟩) m m) (M.pq R l k (t + 1))) := by
              rw [← HS.out]
              exact HV.out.appRow k hkl ho2 (by rw [HVk.out]; exact HK2.out) (by rw [HVk.out]; exact hat3)
            have HBn : Hid (Below w.heap.size w (w2.setCell ⟨w.heap.size, k, none⟩ (.slice (some ⟨b', 0, none⟩) (t + 1) c2))) := ((HB.out.trans (((b_alloc wi (.cells #[.int .i64 x] 2)).drew).mono hszw)).trans hb2).setCell (Nat.le_refl _) _
            go_wp2
            exact ⟨⟨t + 1, by omega, by go_num, HN, HBn⟩, by simp [intOf]; omega⟩
        · obtain rfl : t = m := by omega
          rw [show M.pq R l k t = M.pq R l (k + 1) 0 by rw [← M.pq_next, HLn.out]] at HO
          go_wp2
          go_roundw
          case rel => exact ⟨k + 1, by omega, by go_num, HO, HB⟩
          case measure => simp [intOf]; omega
    · obtain rfl : k = m := by omega
      rw [show M.pq R l k 0 = M.partQ R l by rw [← M.pq_all, HLn.out]] at HO
      go_wp2
      go_ret
      exact ⟨_, _, rfl, HO.out, HB.out⟩
end V
end Go.Proofs.Ytmobcobdpemlnaa

namespace Go.Proofs.Ytmobcobdpemlnaa
namespace M
/-- No element is less than the one before. -/
def srtB (l : List Int) : Bool := (List.range (l.length - 1)).all fun i => decide (l.getD i 0 ≤ l.getD (i + 1) 0)
theorem srtB_t {l : List Int} (h : ∀ m, m + 1 < l.length → l.getD m 0 ≤ l.getD (m + 1) 0) : srtB l = true := by
  unfold srtB
  rw [List.all_eq_true]
  intro i hi
  have := List.mem_range.1 hi
  exact decide_eq_true (h i (by omega))
theorem srtB_f {l : List Int} {m : Nat} (hm : m + 1 < l.length) (h : l.getD (m + 1) 0 < l.getD m 0) : srtB l = false := by
  cases e : srtB l with
  | false => rfl
  | true =>
    have := List.all_eq_true.1 e m (List.mem_range.2 (by omega))
    have := of_decide_eq_true this
    omega
end M
namespace V
set_option maxRecDepth 100000
open Go.RowKit
theorem isNaNs (a : Int) (w : World) : Calls Try.prog 131 #[.int .i64 a] w fun e w' => e = .returned (.bool false) ∧ w = w' := by
  go_enter Try.func131, Try.ntmps131
  go_wp2
  go_ret
  exact ⟨by simp, rfl⟩
set_option maxRecDepth 100000 in
set_option maxHeartbeats 1000000 in
theorem cmpLess (a b : Int) (w : World) : Calls Try.prog 105 #[.int .i64 a, .int .i64 b] w fun e w' => e = .returned (.bool (decide (a < b))) ∧ w = w' := by
  go_enter Try.func105, Try.ntmps105
  go_wp2_with (go_at_call 131; refine (isNaNs _ _).mono ?_; rintro e w' ⟨rfl, rfl⟩)
  go_ret
  exact ⟨rfl, rfl⟩
set_option maxRecDepth 100000 in
set_option maxHeartbeats 1000000 in
theorem isSorted (a : Option Addr) (L cap : Nat) (l : List Int) (w : World) (h : Ints .i64 w a L l) :
    Calls Try.prog 71 #[.slice a L cap] w fun e w' => e = .returned (.bool (M.srtB l)) ∧ ∃ q, w' = w.drewN q := by
  have HI := Lib.hid h
  have HL : Hid (l.length = L) := h.1
  have hm := h.2.1
  unfold maxLen at hm
  have HF : Hid (∀ m, m + 1 < L → l.getD (m + 1) 0 < l.getD m 0 → M.srtB l = false) := fun m q1 q2 => M.srtB_f (by rw [HL.out]; exact q1) q2
  have HT : Hid ((∀ m, m + 1 < L → l.getD m 0 ≤ l.getD (m + 1) 0) → M.srtB l = true) := fun q => M.srtB_t (by rw [HL.out]; exact q)
  clear h
  by_cases h0 : L = 0
  · have HE : Hid (M.srtB l = true) := HT.out (fun m q => by omega)
    subst h0
    clear HT HF
    go_enter Try.func71, Try.ntmps71
    go_wp2
    go_loopw [3] (fun iv wr => iv = .int .i64 (-1) ∧ wr = w) (fun _ _ => 0)
    case atStart => exact ⟨by go_num, rfl⟩
    case round =>
      obtain ⟨rfl, rfl⟩ := hrel
      go_wp2
      go_ret
      exact ⟨by rw [HE.out]; rfl, 0, rfl⟩
  · go_enter Try.func71, Try.ntmps71
    go_wp2
    go_loopw [3] (fun iv wr => ∃ i : Nat, i < L ∧ iv = .int .i64 i ∧ Hid (∀ m, i ≤ m → m + 1 < L → l.getD m 0 ≤ l.getD (m + 1) 0) ∧ Hid (∃ q, wr = w.drewN q)) (fun iv _ => (intOf iv).toNat)
    case atStart => exact ⟨L - 1, by omega, by congr 1; omega, fun m q1 q2 => by omega, 0, rfl⟩
    case round =>
      obtain ⟨i, hi, rfl, HA, HW⟩ := hrel
      obtain ⟨q, hq⟩ := HW.out
      subst hq
      by_cases hi0 : i = 0
      · subst hi0
        have HE : Hid (M.srtB l = true) := HT.out (fun m q => HA.out m (Nat.zero_le _) q)
        go_wp2
        go_ret
        exact ⟨by rw [HE.out]; rfl, q, rfl⟩
      · have hip : (0 : Int) < (i : Int) := by omega
        obtain ⟨b, o, x, rfl, -, hx, hc⟩ := HI.out.at i hi
        obtain ⟨b2, o2, y, hb, -, hy, hc2⟩ := HI.out.at (i - 1) (by omega)
        injection hb with hb
        injection hb with e1 e2
        subst e1 e2
        have hii : (i : Int) < (L : Int) := by omega
        have hi1 : (0 : Int) ≤ (i : Int) - 1 := by omega
        have hi2 : (i : Int) - 1 < (L : Int) := by omega
        have hi3 : ((i : Int) - 1).toNat = i - 1 := by omega
        have hC : ∀ w, Calls Try.prog 105 #[.int .i64 x, .int .i64 y] w fun e w' => e = .returned (.bool (decide (x < y))) ∧ w = w' := fun w => cmpLess x y w
        by_cases hlt : x < y
        · have HE : Hid (M.srtB l = false) := HF.out (i - 1) (by omega) (by rw [show i - 1 + 1 = i by omega, ← hx, ← hy]; exact hlt)
          rw [decide_eq_true hlt] at hC
          have HC := Lib.hid hC
          clear hC hx hy hlt
          go_wp2
          go_quiet ((go_at_call 105; first | exact q_one_s (HC.out _) | exact q_more_s (HC.out _)))
          go_wp2
          go_ret
          exact ⟨by rw [HE.out]; rfl, _, by first | rfl | exact World.drewN_drewN _ _ _⟩
        · have HN : Hid (∀ m, i - 1 ≤ m → m + 1 < L → l.getD m 0 ≤ l.getD (m + 1) 0) := fun m q1 q2 => by
            by_cases e : m = i - 1
            · subst e; rw [show i - 1 + 1 = i by omega, ← hx, ← hy]; omega
            · exact HA.out m (by omega) q2
          rw [decide_eq_false hlt] at hC
          have HC := Lib.hid hC
          clear hC hx hy hlt
          go_wp2
          go_quiet ((go_at_call 105; first | exact q_one_s (HC.out _) | exact q_more_s (HC.out _)))
          go_wp2
          go_roundw
          case rel => exact ⟨i - 1, by omega, by congr 1; omega, HN, _, by first | rfl | exact World.drewN_drewN _ _ _⟩
          case measure => simp [intOf]; omega
end V
end Go.Proofs.Ytmobcobdpemlnaa

namespace Go.Proofs.Ytmobcobdpemlnaa
namespace M
def sumZ : Nat → (Nat → Int) → Int
  | 0, _ => 0
  | k + 1, f => sumZ k f + f k
theorem sumZ_congr {k : Nat} {f g : Nat → Int} (h : ∀ j, j < k → f j = g j) : sumZ k f = sumZ k g := by
  induction k with
  | zero => rfl
  | succ k ih => show sumZ k f + f k = sumZ k g + g k; rw [ih fun j hj => h j (by omega), h k (by omega)]
theorem sumZ_zero {k : Nat} {f : Nat → Int} (h : ∀ j, j < k → f j = 0) : sumZ k f = 0 := by
  induction k with
  | zero => rfl
  | succ k ih => show sumZ k f + f k = 0; rw [ih fun j hj => h j (by omega), h k (by omega)]; rfl
theorem sumZ_one {k a : Nat} {f : Nat → Int} (ha : a < k) (h : ∀ j, j < k → j ≠ a → f j = 0) : sumZ k f = f a := by
  induction k with
  | zero => omega
  | succ k ih =>
    show sumZ k f + f k = f a
    by_cases e : a = k
    · subst e; rw [sumZ_zero fun j hj => h j (by omega) (by omega)]; omega
    · rw [ih (by omega) fun j hj => h j (by omega), h k (by omega) (fun q => e q.symm)]; omega
theorem sumZ_tel (g : Nat → Int) (k : Nat) : sumZ k (fun j => g (j + 1) - g j) = g k - g 0 := by
  induction k with
  | zero => show (0 : Int) = _; omega
  | succ k ih =>
    show sumZ k _ + (g (k + 1) - g k) = _
    rw [ih]; omega
/-- The least and the greatest index with the greatest height. -/
def IsLo (c : Nat → Int) (p q : Int) (n lo : Nat) : Prop := lo < n ∧ nB c lo ∧ (∀ m, m < n → nB c m → G c p q m ≤ G c p q lo) ∧ ∀ m, m < lo → nB c m → G c p q m < G c p q lo
def IsHi (c : Nat → Int) (p q : Int) (n hi : Nat) : Prop := hi < n ∧ nB c hi ∧ (∀ m, m < n → nB c m → G c p q m ≤ G c p q hi) ∧ ∀ m, hi < m → m < n → nB c m → G c p q m < G c p q hi
theorem lohi_eq {c : Nat → Int} {p q : Int} {n lo hi : Nat} (h : IsLo c p q n lo) (h' : IsHi c p q n hi) : G c p q lo = G c p q hi ∧ lo ≤ hi := by
  have a := h.2.2.1 hi h'.1 h'.2.1
  have b := h'.2.2.1 lo h.1 h.2.1
  refine ⟨by omega, ?_⟩
  rcases Nat.lt_or_ge hi lo with e | e
  · have := h.2.2.2 hi e h'.2.1; omega
  · exact e
/-- A step of the hull on the level is the way from the least to the greatest. -/
theorem pair_lohi {c : Nat → Int} {p q : Int} {n L lo hi j : Nat} {t : Nat → Nat} (H : Hull c n t L) (hq : 0 < q) (h : IsLo c p q n lo) (h' : IsHi c p q n hi) (hj : j + 1 < L) (hG : G c p q (t j) = G c p q (t (j + 1))) : lo = t j ∧ hi = t (j + 1) := by
  have hlt := H.1 j (j + 1) (by omega) hj
  have S := fun m hm bm => supp (p := p) (q := q) hq (H.ess (j := j) (by omega)) (H.ess hj) hlt (H.gap hj) hG m hm bm
  have e1 := h.2.2.1 (t j) (H.ess (j := j) (by omega)).1 (H.ess (j := j) (by omega)).2.1
  have e2 := h'.2.2.1 (t (j + 1)) (H.ess hj).1 (H.ess hj).2.1
  constructor
  · rcases Nat.lt_trichotomy lo (t j) with k | k | k
    · have := (S lo h.1 h.2.1).2.1 k; omega
    · exact k
    · have := h.2.2.2 (t j) k (H.ess (j := j) (by omega)).2.1
      have := (S lo h.1 h.2.1).1; omega
  · rcases Nat.lt_trichotomy hi (t (j + 1)) with k | k | k
    · have := h'.2.2.2 (t (j + 1)) k (H.ess hj).1 (H.ess hj).2.1
      have := (S hi h'.1 h'.2.1).1; omega
    · exact k
    · have := (S hi h'.1 h'.2.1).2.2 k; omega
theorem corner_sum {c : Nat → Int} {p q : Int} {n L lo hi : Nat} {t : Nat → Nat} (H : Hull c n t L) (hq : 0 < q) (h : IsLo c p q n lo) (h' : IsHi c p q n hi) :
    sumZ (L - 1) (fun j => if G c p q (t j) = G c p q (t (j + 1)) then (t (j + 1) : Int) - t j else 0) = (hi : Int) - lo := by
  obtain ⟨hE, hle⟩ := lohi_eq h h'
  by_cases e : lo = hi
  · subst e
    rw [sumZ_zero fun j hj => ?_]
    · omega
    · refine if_neg fun hG => ?_
      obtain ⟨e1, e2⟩ := pair_lohi H hq h h' (by omega) hG
      have := H.1 j (j + 1) (by omega) (by omega)
      omega
  · obtain ⟨a, ha, ea⟩ := (H.2 lo).1 (lo_ess hq h.1 h.2.1 h.2.2.1 h.2.2.2)
    obtain ⟨b, hb, eb⟩ := (H.2 hi).1 (hi_ess hq h'.1 h'.2.1 h'.2.2.1 h'.2.2.2)
    have hab : a < b := by
      rcases Nat.lt_trichotomy a b with k | k | k
      · exact k
      · subst k; omega
      · have := H.1 b a k ha; omega
    have hb1 : b = a + 1 := by
      by_cases k : b = a + 1
      · exact k
      · exfalso
        have l1 := H.1 a (a + 1) (by omega) (by omega)
        have l2 := H.1 (a + 1) b (by omega) hb
        have hm := H.ess (j := a + 1) (by omega)
        have hcr := of_crit (p := p) hq (hm.2.2 lo hi (by omega) (by omega) h'.1 h.2.1 h'.2.1)
        have g := h.2.2.1 _ hm.1 hm.2.1
        have b1 := np (a := G c p q (t (a + 1)) - G c p q lo) (b := (hi : Int) - t (a + 1)) (by omega) (by omega)
        have b2 := Int.mul_nonneg (a := G c p q hi - G c p q (t (a + 1))) (b := (t (a + 1) : Int) - lo) (by omega) (by omega)
        omega
    subst hb1
    rw [sumZ_one (a := a) (by omega) fun j hj hne => ?_]
    · rw [ea, eb, if_pos hE]
    · refine if_neg fun hG => ?_
      obtain ⟨e1, e2⟩ := pair_lohi H hq h h' (by omega) hG
      rcases Nat.lt_trichotomy j a with k | k | k
      · have := H.1 j a k (by omega); omega
      · exact hne k
      · have := H.1 a j k (by omega); omega
/-- The product's least and greatest index. -/
theorem lo_mul {c d : List Int} {p q : Int} {a b : Nat} (hc : isPoly c = true) (hd : isPoly d = true) (hq : 0 < q) (h : IsLo (cf c) p q c.length a) (h' : IsLo (cf d) p q d.length b) : IsLo (cf (mulP c d)) p q (mulP c d).length (a + b) := by
  obtain ⟨a1, a2, a3, a4⟩ := h
  obtain ⟨b1, b2, b3, b4⟩ := h'
  obtain ⟨g1, g2⟩ := mul_fin hc hd a1 b1 a2 b2
  have hge : G (cf c) p q a + G (cf d) p q b ≤ G (cf (mulP c d)) p q (a + b) := by
    have k := Int.mul_le_mul_of_nonneg_left g1 (Int.le_of_lt hq)
    unfold G cf
    rw [Int.natCast_add, Int.mul_add]
    rw [Int.mul_add] at k
    omega
  have hat : ∀ m, m < c.length + d.length - 1 → nB (cf (mulP c d)) m → ∃ u v, u < c.length ∧ v < d.length ∧ u + v = m ∧ nB (cf c) u ∧ nB (cf d) v ∧ G (cf (mulP c d)) p q m = G (cf c) p q u + G (cf d) p q v := by
    intro m hm bm
    obtain ⟨u, v, hu, hv, huv, bu, bv, e⟩ := mul_att hm bm
    refine ⟨u, v, hu, hv, huv, bu, bv, ?_⟩
    unfold G cf
    rw [e, ← huv, Int.natCast_add]
    grind
  refine ⟨by rw [mulP_len]; omega, g2, fun m hm bm => ?_, fun m hm bm => ?_⟩
  · rw [mulP_len] at hm
    obtain ⟨u, v, hu, hv, _, bu, bv, e⟩ := hat m hm bm
    have := a3 u hu bu
    have := b3 v hv bv
    omega
  · obtain ⟨u, v, hu, hv, huv, bu, bv, e⟩ := hat m (by omega) bm
    have := a3 u hu bu
    have := b3 v hv bv
    rcases Nat.lt_or_ge u a with k | k
    · have := a4 u k bu; omega
    · have := b4 v (by omega) bv; omega
theorem hi_mul {c d : List Int} {p q : Int} {a b : Nat} (hc : isPoly c = true) (hd : isPoly d = true) (hq : 0 < q) (h : IsHi (cf c) p q c.length a) (h' : IsHi (cf d) p q d.length b) : IsHi (cf (mulP c d)) p q (mulP c d).length (a + b) := by
  obtain ⟨a1, a2, a3, a4⟩ := h
  obtain ⟨b1, b2, b3, b4⟩ := h'
  obtain ⟨g1, g2⟩ := mul_fin hc hd a1 b1 a2 b2
  have hge : G (cf c) p q a + G (cf d) p q b ≤ G (cf (mulP c d)) p q (a + b) := by
    have k := Int.mul_le_mul_of_nonneg_left g1 (Int.le_of_lt hq)
    unfold G cf
    rw [Int.natCast_add, Int.mul_add]
    rw [Int.mul_add] at k
    omega
  have hat : ∀ m, m < c.length + d.length - 1 → nB (cf (mulP c d)) m → ∃ u v, u < c.length ∧ v < d.length ∧ u + v = m ∧ nB (cf c) u ∧ nB (cf d) v ∧ G (cf (mulP c d)) p q m = G (cf c) p q u + G (cf d) p q v := by
    intro m hm bm
    obtain ⟨u, v, hu, hv, huv, bu, bv, e⟩ := mul_att hm bm
    refine ⟨u, v, hu, hv, huv, bu, bv, ?_⟩
    unfold G cf
    rw [e, ← huv, Int.natCast_add]
    grind
  refine ⟨by rw [mulP_len]; omega, g2, fun m hm bm => ?_, fun m hm hm2 bm => ?_⟩
  · rw [mulP_len] at hm
    obtain ⟨u, v, hu, hv, _, bu, bv, e⟩ := hat m hm bm
    have := a3 u hu bu
    have := b3 v hv bv
    omega
  · rw [mulP_len] at hm2
    obtain ⟨u, v, hu, hv, huv, bu, bv, e⟩ := hat m hm2 bm
    have := a3 u hu bu
    have := b3 v hv bv
    rcases Nat.lt_or_ge a u with k | k
    · have := a4 u k hu bu; omega
    · have := b4 v (by omega) hv bv; omega
/-- Lowest terms are unique. -/
theorem ply_dvd {a b c : Int} (h : a ∣ b * c) (hg : Int.gcd b a = 1) : a ∣ c := by
  have e : a.natAbs ∣ b.natAbs * c.natAbs := by rw [← Int.natAbs_mul]; exact Int.natAbs_dvd_natAbs.2 h
  exact Int.natAbs_dvd_natAbs.1 (Nat.Coprime.dvd_of_dvd_mul_left (show Nat.gcd a.natAbs b.natAbs = 1 by rw [Nat.gcd_comm]; exact hg) e)
theorem rat_is {n d p q : Int} (hd : 0 < d) (hq : 0 < q) (hg : Int.gcd p q = 1) : (ratN n d = p ∧ ratD n d = q) ↔ n * q = p * d := by
  have e := rat_back (n := n) (d := d) (by omega)
  have g := rat_gcd (n := n) (d := d) (by omega)
  have ps := rat_pos (n := n) (d := d) (by omega)
  constructor
  · rintro ⟨rfl, rfl⟩; exact e.symm
  · intro h
    have h2 : ratN n d * q = p * ratD n d := by
      have : d * (ratN n d * q) = d * (p * ratD n d) := by
        have e1 : d * (ratN n d * q) = ratN n d * d * q := by ac_rfl
        have e2 : d * (p * ratD n d) = p * d * ratD n d := by ac_rfl
        rw [e1, e2, e, ← h]; ac_rfl
      exact Int.eq_of_mul_eq_mul_left (by omega) this
    have d1 : ratD n d ∣ q := by
      have : ratD n d ∣ ratN n d * q := ⟨p, by rw [h2]; ac_rfl⟩
      exact ply_dvd this g
    have d2 : q ∣ ratD n d := by
      have : q ∣ p * ratD n d := ⟨ratN n d, by rw [← h2]; ac_rfl⟩
      exact ply_dvd this hg
    have e3 : ratD n d = q := Int.dvd_antisymm (by omega) (by omega) d1 d2
    refine ⟨?_, e3⟩
    rw [e3] at h2
    exact Int.eq_of_mul_eq_mul_right (by omega) h2
/-- The step between two terms is level in its own direction alone. -/
theorem level_iff (c : Nat → Int) {i k : Nat} (hik : i < k) {p q : Int} (hq : 0 < q) (hg : Int.gcd p q = 1) : (ratN (c i - c k) ((k : Int) - i) = p ∧ ratD (c i - c k) ((k : Int) - i) = q) ↔ G c p q i = G c p q k := by
  rw [rat_is (by omega) hq hg]
  unfold G
  rw [Int.sub_mul, Int.mul_sub, Int.mul_comm (c i) q, Int.mul_comm (c k) q]
  omega
/-- How often a corner occurs. -/
def timesAt (c : List Int) (p q : Int) : Int := sumZ ((tL c).length - 1) fun j => if (cornAt c j).1 = p ∧ (cornAt c j).2.1 = q then (cornAt c j).2.2 else 0
theorem timesAt_eq {c : List Int} {p q : Int} {lo hi : Nat} (hq : 0 < q) (hg : Int.gcd p q = 1) (h : IsLo (cf c) p q c.length lo) (h' : IsHi (cf c) p q c.length hi) : timesAt c p q = (hi : Int) - lo := by
  rw [← corner_sum (terms_hull (cf c) c.length) hq h h']
  unfold timesAt
  refine sumZ_congr fun j hj => ?_
  have hlt := tL_inc (c := c) (i := j) (j := j + 1) (by omega) (by unfold tL at *; omega)
  have := level_iff (cf c) hlt hq hg
  by_cases e : G (cf c) p q ((tL c).getD j 0) = G (cf c) p q ((tL c).getD (j + 1) 0)
  · exact (if_pos (this.2 e)).trans (if_pos e).symm
  · exact (if_neg (fun k => e (this.1 k))).trans (if_neg e).symm
theorem lohi_ex {c : List Int} (hc : isPoly c = true) (p q : Int) : (∃ lo, IsLo (cf c) p q c.length lo) ∧ ∃ hi, IsHi (cf c) p q c.length hi := by
  obtain ⟨_, _, _, i, hi, bi⟩ := isPoly_t hc
  exact ⟨lo_ex (cf c) p q c.length ⟨i, hi, bi⟩, hi_ex (cf c) p q c.length ⟨i, hi, bi⟩⟩
/-- A corner of a product. -/
theorem corner_mul {c d : List Int} (hc : isPoly c = true) (hd : isPoly d = true) (hp : isPoly (mulP c d) = true) {j : Nat} (hj : j + 1 < (tL (mulP c d)).length) :
    timesAt c (cornAt (mulP c d) j).1 (cornAt (mulP c d) j).2.1 + timesAt d (cornAt (mulP c d) j).1 (cornAt (mulP c d) j).2.1 = (cornAt (mulP c d) j).2.2 := by
  have hlt := tL_inc (c := mulP c d) (i := j) (j := j + 1) (by omega) hj
  have hw : (0 : Int) < ((tL (mulP c d)).getD (j + 1) 0 : Int) - ((tL (mulP c d)).getD j 0 : Int) := by omega
  obtain ⟨p, ep⟩ : ∃ p, p = (cornAt (mulP c d) j).1 := ⟨_, rfl⟩
  obtain ⟨q, eq⟩ : ∃ q, q = (cornAt (mulP c d) j).2.1 := ⟨_, rfl⟩
  have hq : 0 < q := by
    have := rat_pos (n := (mulP c d).getD ((tL (mulP c d)).getD j 0) 0 - (mulP c d).getD ((tL (mulP c d)).getD (j + 1) 0) 0) (d := ((tL (mulP c d)).getD (j + 1) 0 : Int) - ((tL (mulP c d)).getD j 0 : Int)) (by omega)
    rw [eq]
    exact Int.lt_of_lt_of_le (by decide) this
  have hg : Int.gcd p q = 1 := by
    rw [ep, eq]; exact rat_gcd (by omega)
  rw [← ep, ← eq]
  obtain ⟨⟨a, ha⟩, a', ha'⟩ := lohi_ex hc p q
  obtain ⟨⟨b, hb⟩, b', hb'⟩ := lohi_ex hd p q
  rw [timesAt_eq hq hg ha ha', timesAt_eq hq hg hb hb']
  have hl := (level_iff (cf (mulP c d)) hlt hq hg).1 ⟨ep.symm, eq.symm⟩
  obtain ⟨e1, e2⟩ := pair_lohi (terms_hull (cf (mulP c d)) (mulP c d).length) hq (lo_mul hc hd hq ha hb) (hi_mul hc hd hq ha' hb') hj hl
  show _ = ((tL (mulP c d)).getD (j + 1) 0 : Int) - ((tL (mulP c d)).getD j 0 : Int)
  have f1 : ((tL (mulP c d)).getD j 0 : Int) = ((a + b : Nat) : Int) := by rw [e1]; rfl
  have f2 : ((tL (mulP c d)).getD (j + 1) 0 : Int) = ((a' + b' : Nat) : Int) := by rw [e2]; rfl
  rw [f1, f2]
  simp only [Int.natCast_add]
  omega
/-- All corners together. -/
def timesAll (c : List Int) : Int := sumZ ((tL c).length - 1) fun j => (cornAt c j).2.2
theorem timesAll_eq (c : List Int) : timesAll c = ((tL c).getD ((tL c).length - 1) 0 : Int) - ((tL c).getD 0 0 : Int) := sumZ_tel (fun j => ((tL c).getD j 0 : Int)) _
theorem ends_mul {c d : List Int} (hc : isPoly c = true) (hd : isPoly d = true) (hp : isPoly (mulP c d) = true) : timesAll (mulP c d) = timesAll c + timesAll d := by
  rw [timesAll_eq, timesAll_eq, timesAll_eq]
  have Hc := full_hull hc
  have Hd := full_hull hd
  have Hp := full_hull hp
  have lc := tL_pos hc
  have ld := tL_pos hd
  have lp := tL_pos hp
  have c0 := Hc.ess lc
  have d0 := Hd.ess ld
  have p0 := Hp.ess lp
  have c1 := Hc.ess (j := (tL c).length - 1) (by omega)
  have d1 := Hd.ess (j := (tL d).length - 1) (by omega)
  have p1 := Hp.ess (j := (tL (mulP c d)).length - 1) (by omega)
  have k0 := mul_fin hc hd c0.1 d0.1 c0.2.1 d0.2.1
  have k1 := mul_fin hc hd c1.1 d1.1 c1.2.1 d1.2.1
  have hpl := mulP_len c d
  have a1 : tI (mulP c d) 0 ≤ tI c 0 + tI d 0 := by
    rcases Nat.lt_or_ge (tI c 0 + tI d 0) (tI (mulP c d) 0) with e | e
    · exact absurd k0.2 (Hp.first lp _ e)
    · exact e
  have a2 : tI c 0 + tI d 0 ≤ tI (mulP c d) 0 := by
    obtain ⟨u, v, hu, hv, huv, bu, bv, _⟩ := mul_att (c := c) (d := d) (n := tI (mulP c d) 0) (by have := p0.1; omega) p0.2.1
    rcases Nat.lt_or_ge u (tI c 0) with e | e
    · exact absurd bu (Hc.first lc u e)
    · rcases Nat.lt_or_ge v (tI d 0) with e2 | e2
      · exact absurd bv (Hd.first ld v e2)
      · omega
  have b1 : tI c ((tL c).length - 1) + tI d ((tL d).length - 1) ≤ tI (mulP c d) ((tL (mulP c d)).length - 1) := by
    rcases Nat.lt_or_ge (tI (mulP c d) ((tL (mulP c d)).length - 1)) (tI c ((tL c).length - 1) + tI d ((tL d).length - 1)) with e | e
    · have q1 := c1.1
      have q2 := d1.1
      exact absurd k1.2 (Hp.last _ e (by omega))
    · exact e
  have b2 : tI (mulP c d) ((tL (mulP c d)).length - 1) ≤ tI c ((tL c).length - 1) + tI d ((tL d).length - 1) := by
    obtain ⟨u, v, hu, hv, huv, bu, bv, _⟩ := mul_att (c := c) (d := d) (n := tI (mulP c d) ((tL (mulP c d)).length - 1)) (by have := p1.1; omega) p1.2.1
    rcases Nat.lt_or_ge (tI c ((tL c).length - 1)) u with e | e
    · exact absurd bu (Hc.last u e hu)
    · rcases Nat.lt_or_ge (tI d ((tL d).length - 1)) v with e2 | e2
      · exact absurd bv (Hd.last v e2 hv)
      · omega
  unfold tI at *
  omega
end M
end Go.Proofs.Ytmobcobdpemlnaa

namespace Go.Proofs.Ytmobcobdpemlnaa.V
open Go.RowKit

set_option maxRecDepth 100000 in
set_option maxHeartbeats 1000000 in
theorem mul64 (n : Nat) (w : World) (h1 : 1 ≤ n) (h2 : n ≤ 12) : Calls Try.prog 140 #[.int .u64 1, .int .u64 n] w fun e w' => e = .returned (.tuple #[.int .u64 0, .int .u64 n]) ∧ w = w' := by
  have hn : n = 1 ∨ n = 2 ∨ n = 3 ∨ n = 4 ∨ n = 5 ∨ n = 6 ∨ n = 7 ∨ n = 8 ∨ n = 9 ∨ n = 10 ∨ n = 11 ∨ n = 12 := by omega
  clear h1 h2
  rcases hn with rfl | rfl | rfl | rfl | rfl | rfl | rfl | rfl | rfl | rfl | rfl | rfl
  all_goals
    go_enter Try.func140, Try.ntmps140
    go_wp2
    go_ret2
    exact ⟨rfl, rfl⟩

set_option maxRecDepth 100000 in
set_option maxHeartbeats 1000000 in
theorem mulU (n : Nat) (w : World) (h1 : 1 ≤ n) (h2 : n ≤ 12) : Calls Try.prog 130 #[.int .u64 1, .int .u64 n] w fun e w' => e = .returned (.tuple #[.int .u64 0, .int .u64 n]) ∧ w = w' := by
  go_enter Try.func130, Try.ntmps130
  go_wp2_with (first | (go_at_call 140; refine (mul64 _ _ h1 h2).mono ?_; rintro e w' ⟨rfl, rfl⟩))
  go_ret2
  exact ⟨rfl, rfl⟩

/-- A row of n integers of which the first k are x. -/
def repL (x : Int) (k n : Nat) : List Value := List.replicate k (.int .i64 x) ++ List.replicate (n - k) (.int .i64 0)
theorem repL_splice (x : Int) (k n m : Nat) (hk : k ≤ n) (hm : k + m ≤ n) : splice (repL x k n) k (List.replicate m (.int .i64 x)) = repL x (k + m) n := by
  unfold splice repL
  rw [List.take_left' (by simp), List.drop_append, List.length_replicate, List.length_replicate]
  have e1 : List.drop (k + m) (List.replicate k (Value.int IntKind.i64 x)) = [] := by simp
  rw [e1, List.nil_append, List.drop_replicate, ← List.append_assoc, List.replicate_append_replicate]
  congr 2
  omega
theorem repL_made (x : Int) (n : Nat) : (madeCells #[.int .i64 0] n) = (repL x 0 n).toArray := by
  apply Array.ext'
  rw [toList_madeCells_one]
  simp [repL]
theorem own_repL (w : World) (B g n : Nat) (x : Int) (hg : w.heap[g]? = some (.cells (repL x n n).toArray 2 (0, 0))) (hB : B ≤ g) (hn : n ≤ maxLen) : Own w B (.slice (some ⟨g, 0, none⟩) n n) ((List.range n).map fun _ => x) := by
  refine ⟨by simp, .inr ⟨g, n, _, by simp, hB, hg, by simp, hn, by simp [repL], ?_⟩⟩
  simp [repL]
  apply List.ext_getElem
  · simp
  · intro i h1 h2; simp

theorem one_cell {w : World} {a : Addr} {u : Value} (h : w.cell? a = some u) : ∀ j v, [u][j]? = some v → w.cell? (a.add j) = some v := by
  intro j v hj
  match j, hj with
  | 0, hj =>
    simp at hj
    subst hj
    simpa [Addr.add] using h
theorem one_one {x : Int} : ∀ v ∈ [Value.int IntKind.i64 x], v.oneCell' = true := by
  intro v hv; simp at hv; subst hv; rfl

theorem one_lit (w : World) (x : Int) : (w.alloc (.cells #[.int .i64 x] 2)).cell? ⟨w.heap.size, 0, none⟩ = some (.int .i64 x) := cell_one_new w (.int .i64 x) _ 0 _ rfl
theorem rep_one {x : Int} {m : Nat} : ∀ v ∈ List.replicate m (Value.int IntKind.i64 x), v.oneCell' = true := by
  intro v hv; rw [List.mem_replicate] at hv; rw [hv.2]; rfl
theorem rep_cells {w : World} {g k n m : Nat} {x : Int} {T : TypeId} (h : w.heap[g]? = some (.cells (repL x k n).toArray T (0, 0))) (hk : k ≤ n) (hm : m ≤ k) : ∀ j v, (List.replicate m (Value.int IntKind.i64 x))[j]? = some v → w.cell? ((⟨g, 0, none⟩ : Addr).add j) = some v := by
  intro j v hj
  rw [List.getElem?_replicate] at hj
  split at hj
  · next hlt =>
    injection hj with hj
    subst hj
    have e : (⟨g, 0, none⟩ : Addr).add j = ⟨g, j, none⟩ := by cases j <;> simp [Addr.add]
    rw [e]
    simp only [World.cell?, h]
    simp [repL, List.getElem?_append, show j < k by omega]
  · cases hj

set_option maxRecDepth 100000 in
set_option maxHeartbeats 1000000 in
theorem repeat1 (g n cap : Nat) (x : Int) (w : World) (h1 : 1 ≤ n) (h2 : n ≤ 12) (hc : w.cell? ⟨g, 0, none⟩ = some (.int .i64 x)) (hg : g < w.heap.size) :
    Calls Try.prog 104 #[.slice (some ⟨g, 0, none⟩) 1 cap, .int .i64 n] w fun e w' => e = .returned (.slice (some ⟨w.heap.size, 0, none⟩) n n) ∧ Own w' w.heap.size (.slice (some ⟨w.heap.size, 0, none⟩) n n) ((List.range n).map fun _ => x) ∧ Below w.heap.size w w' := by
  have hmk := run_make_row' (P := Try.prog) 26 2 (.int .i64 0) 8 Try.underlying26 info64 rfl .i64 .i64 n (by omega) (by omega)
  have HC := Lib.hid hc
  have hsz : (Try.prog.info? 2).map (·.size) = some 1 := by kernel_rfl
  have HS := Lib.hid hsz
  clear hc hsz
  go_enter Try.func104, Try.ntmps104
  go_wp2_with fail
  refine (mulU n _ h1 h2).mono ?_
  rintro e w' ⟨rfl, rfl⟩
  have hW1 : Hid ((w.alloc (.cells (madeCells #[.int .i64 0] n) 2)).heap[w.heap.size]? = some (.cells (repL x 0 n).toArray 2 (0, 0))) := by
    show _ = _
    rw [repL_made x n]
    show (w.heap.push _)[w.heap.size]? = _
    simp
  have hcell : Hid ((w.alloc (.cells (madeCells #[.int .i64 0] n) 2)).cell? ⟨g, 0, none⟩ = some (.int .i64 x)) := by
    show _ = _
    rw [(b_alloc w _).cell (p := ⟨g, 0, none⟩) hg]; exact HC.out
  go_wp2_with (with_reducible refine wpList_copy_splice rfl (.tmp 31) (.tmp 32) 26 26 rfl 2 Try.underlying26 HS.out (some ⟨w.heap.size, 0, none⟩) (some ⟨g, 0, none⟩) n n 1 cap rfl rfl w.heap.size 0 (repL x 0 n) 2 hW1.out [.int .i64 x] ?hn ?hpos ?hfit ?hone w.heap.size w (b_alloc w _) (Nat.le_refl _) ?_)
  case hn => exact (Nat.min_eq_left h1).symm
  case hpos =>
    intro j v hj
    match j, hj with
    | 0, hj =>
      simp at hj
      subst hj
      exact HC.out
  case hfit => simp [repL]; omega
  case hone => exact one_one
  intro w1 hg1 hb1
  have HG1 : Hid (w1.heap[w.heap.size]? = some (.cells (repL x 1 n).toArray 2 (0, 0))) := by
    have := hg1.out
    rw [show [Value.int .i64 x] = List.replicate 1 (.int .i64 x) from rfl, repL_splice x 0 n 1 (by omega) (by omega)] at this
    exact this
  have HB1 := Lib.hid hb1
  clear hg1 hb1 hW1 hcell
  go_wp2
  go_loopw [8] (fun i wr => ∃ k : Nat, 1 ≤ k ∧ k ≤ n ∧ i = .int .i64 k ∧ Hid (wr.heap[w.heap.size]? = some (.cells (repL x k n).toArray 2 (0, 0))) ∧ Below w.heap.size w wr) (fun i _ => n - (intOf i).toNat)
  case atStart => exact ⟨1, Nat.le_refl _, h1, rfl, HG1, HB1.out⟩
  case round =>
    obtain ⟨k, hk1, hk, rfl, HG, hb⟩ := hrel
    have HB := Lib.hid hb
    clear hb
    by_cases hlt : k < n
    · have hne : ¬ n = k := by omega
      have hki : (k : Int) < (n : Int) := by omega
      have hkn : k ≤ n := by omega
      go_wp2
      obtain ⟨m, hm⟩ : ∃ m, m = min k (n - k) := ⟨_, rfl⟩
      have hm1 : 1 ≤ m := by omega
      have hm2 : m ≤ k := by omega
      have hm3 : k + m ≤ n := by omega
      have HM := Lib.hid (rep_cells (x := x) HG.out hkn hm2)
      have HMm := Lib.hid hm
      have HN := Lib.hid (repL_splice x k n m hkn hm3)
      clear hm
      have hw : IntKind.i64.wrap ((k : Int) + (m : Int)) = (k : Int) + (m : Int) := IntWalk.i64_in _ (by omega)
      go_region_law (refine step_copy_splice rfl (.tmp 41) (.tmp 44) 26 26 rfl 2 Try.underlying26 HS.out (some ⟨w.heap.size, k, none⟩) (some ⟨w.heap.size, 0, none⟩) (n - k) (n - k) k n (by go_simp) (by go_simp) w.heap.size k (repL x k n) 2 HG.out (List.replicate m (.int .i64 x)) (by rw [List.length_replicate]; exact HMm.out) (fun _ => ⟨rfl, _, rfl, HM.out⟩) (by simp [repL]; omega) rep_one w.heap.size w HB.out.drew (Nat.le_refl _) ?_; intro w4 hg4 hb4)
      have HG4 : Hid (w4.heap[w.heap.size]? = some (.cells (repL x (k + m) n).toArray 2 (0, 0))) := by
        have := hg4.out
        rw [HN.out] at this
        exact this
      have HB4 := Lib.hid hb4
      clear hg4 hb4 hw
      go_simp
      go_wp2
      go_roundw
      case rel => exact ⟨k + m, by omega, by omega, vi (by omega), HG4, HB4.out⟩
      case measure => simp [intOf]; omega
    · obtain rfl : k = n := by omega
      go_wp2
      go_ret
      exact ⟨rfl, own_repL _ _ _ _ _ HG.out (Nat.le_refl _) (by unfold maxLen; omega), HB.out⟩
set_option maxRecDepth 100000 in
set_option maxHeartbeats 1000000 in
theorem mul64_0 (w : World) : Calls Try.prog 140 #[.int .u64 1, .int .u64 0] w fun e w' => e = .returned (.tuple #[.int .u64 0, .int .u64 0]) ∧ w = w' := by
  go_enter Try.func140, Try.ntmps140
  go_wp2
  go_ret2
  exact ⟨rfl, rfl⟩
set_option maxRecDepth 100000 in
set_option maxHeartbeats 1000000 in
theorem mulU_0 (w : World) : Calls Try.prog 130 #[.int .u64 1, .int .u64 0] w fun e w' => e = .returned (.tuple #[.int .u64 0, .int .u64 0]) ∧ w = w' := by
  go_enter Try.func130, Try.ntmps130
  go_wp2_with (first | (go_at_call 140; refine (mul64_0 _).mono ?_; rintro e w' ⟨rfl, rfl⟩))
  go_ret2
  exact ⟨rfl, rfl⟩
set_option maxRecDepth 100000 in
set_option maxHeartbeats 1000000 in
theorem repeat0 (g cap : Nat) (x : Int) (w : World) (hc : w.cell? ⟨g, 0, none⟩ = some (.int .i64 x)) :
    Calls Try.prog 104 #[.slice (some ⟨g, 0, none⟩) 1 cap, .int .i64 0] w fun e w' => e = .returned (.slice (some ⟨w.heap.size, 0, none⟩) 0 0) ∧ Own w' w.heap.size (.slice (some ⟨w.heap.size, 0, none⟩) 0 0) [] ∧ Below w.heap.size w w' := by
  have hmk : ∀ w : World, Sem.run Try.prog (Instr.makeSlice 26 (.int .i64 0) (.int .i64 0)) w = .ok (.slice (some ⟨w.heap.size, 0, none⟩) 0 0) (w.alloc (.cells (madeCells #[.int .i64 0] 0) 2)) := run_make_row' (P := Try.prog) 26 2 (.int .i64 0) 8 Try.underlying26 info64 rfl .i64 .i64 0 (by omega) (by omega)
  have hsz : (Try.prog.info? 2).map (·.size) = some 1 := by kernel_rfl
  have HS := Lib.hid hsz
  have HC := Lib.hid hc
  clear hc hsz
  go_enter Try.func104, Try.ntmps104
  go_wp2_with fail
  refine (mulU_0 _).mono ?_
  rintro e w' ⟨rfl, rfl⟩
  have hW1 : Hid ((w.alloc (.cells (madeCells #[.int .i64 0] 0) 2)).heap[w.heap.size]? = some (.cells (repL x 0 0).toArray 2 (0, 0))) := by
    show _ = _
    rw [repL_made x 0]
    show (w.heap.push _)[w.heap.size]? = _
    simp
  go_wp2_with (with_reducible refine wpList_copy_splice rfl (.tmp 31) (.tmp 32) 26 26 rfl 2 Try.underlying26 HS.out (some ⟨w.heap.size, 0, none⟩) (some ⟨g, 0, none⟩) 0 0 1 cap rfl rfl w.heap.size 0 (repL x 0 0) 2 hW1.out [] ?hn ?hpos ?hfit ?hone w.heap.size w (b_alloc w _) (Nat.le_refl _) ?_)
  case hn => rfl
  case hfit => simp [repL]
  case hone => intro v hv; simp at hv
  intro w1 hg1 hb1
  have HG1 : Hid (w1.heap[w.heap.size]? = some (.cells (repL x 0 0).toArray 2 (0, 0))) := by
    have := hg1.out
    exact this
  have HB1 := Lib.hid hb1
  clear hg1 hb1 hW1
  go_wp2
  go_loopw [8] (fun i wr => i = .int .i64 0 ∧ wr = w1) (fun _ _ => 0)
  case atStart => exact ⟨rfl, rfl⟩
  case round =>
    obtain ⟨rfl, rfl⟩ := hrel
    go_wp2
    go_ret
    exact ⟨rfl, own_repL _ _ _ 0 x HG1.out (Nat.le_refl _) (by unfold maxLen; omega), HB1.out⟩
end Go.Proofs.Ytmobcobdpemlnaa.V

namespace Go.Proofs.Ytmobcobdpemlnaa
namespace M
/-- The list shifted such that its greatest element is 0 if it is finite. -/
def nrm (x : List Int) : List Int := shvL x (-(maxL x))
/-- The difference at the first index at which both have a finite element. -/
def gapI : List Int → List Int → Int
  | a :: x, b :: y => if a ≠ -1000000000000000 ∧ b ≠ -1000000000000000 then b - a else gapI x y
  | _, _ => 0
def gapB (x y : List Int) : Bool := decide (shvL x (gapI x y) = y)
theorem gapI_spec : ∀ (x y : List Int), x.length = y.length → (∃ i, i < x.length ∧ x.getD i 0 ≠ -1000000000000000 ∧ y.getD i 0 ≠ -1000000000000000 ∧ gapI x y = y.getD i 0 - x.getD i 0) ∨ ((∀ i, i < x.length → x.getD i 0 = -1000000000000000 ∨ y.getD i 0 = -1000000000000000) ∧ gapI x y = 0)
  | [], [], _ => .inr ⟨fun i hi => absurd hi (Nat.not_lt_zero i), rfl⟩
  | [], b :: y, h => absurd h (by simp)
  | a :: x, [], h => absurd h (by simp)
  | a :: x, b :: y, h => by
    by_cases e : a ≠ -1000000000000000 ∧ b ≠ -1000000000000000
    · exact .inl ⟨0, by simp, e.1, e.2, by simp [gapI, e]⟩
    · have hg : gapI (a :: x) (b :: y) = gapI x y := by rw [gapI, if_neg e]
      rcases gapI_spec x y (by simpa using h) with ⟨i, hi, h1, h2, h3⟩ | ⟨h1, h2⟩
      · exact .inl ⟨i + 1, by simpa using hi, by simpa using h1, by simpa using h2, by rw [hg, h3]; simp⟩
      · refine .inr ⟨fun i hi => ?_, by rw [hg, h2]⟩
        cases i with
        | zero => simp only [List.getD_cons_zero]; omega
        | succ i => simpa using h1 i (by simpa using hi)
theorem maxL_foldl : ∀ (l : List Int) (m : Int), m ≤ l.foldl max m ∧ (∀ i, i < l.length → l.getD i 0 ≤ l.foldl max m) ∧ (l.foldl max m = m ∨ ∃ i, i < l.length ∧ l.getD i 0 = l.foldl max m)
  | [], m => ⟨Int.le_refl _, fun i hi => absurd hi (Nat.not_lt_zero i), .inl rfl⟩
  | a :: l, m => by
    obtain ⟨h1, h2, h3⟩ := maxL_foldl l (max m a)
    refine ⟨by rw [List.foldl_cons]; omega, fun i hi => ?_, ?_⟩
    · rw [List.foldl_cons]
      cases i with
      | zero => simp only [List.getD_cons_zero]; omega
      | succ i => simpa using h2 i (by simpa using hi)
    · rw [List.foldl_cons]
      rcases h3 with h3 | ⟨i, hi, h3⟩
      · rw [h3]
        rcases Int.le_total m a with e | e
        · exact .inr ⟨0, by simp, by rw [List.getD_cons_zero]; omega⟩
        · exact .inl (by omega)
      · exact .inr ⟨i + 1, by simpa using hi, by simpa using h3⟩
theorem maxL_ge {x : List Int} {i : Nat} (hi : i < x.length) : x.getD i 0 ≤ maxL x := (maxL_foldl x _).2.1 i hi
theorem maxL_low (x : List Int) : -1000000000000000 ≤ maxL x := (maxL_foldl x _).1
theorem maxL_mem (x : List Int) : maxL x = -1000000000000000 ∨ ∃ i, i < x.length ∧ x.getD i 0 = maxL x := (maxL_foldl x _).2.2
theorem list_ext0 {x y : List Int} (h : x.length = y.length) (h2 : ∀ i, i < x.length → x.getD i 0 = y.getD i 0) : x = y := by
  refine List.ext_getElem h fun i h1 h3 => ?_
  have := h2 i h1
  simpa [h1, h3] using this
theorem shv_eq {x y : List Int} {g d : Int} (h : x.length = y.length) : shvL x g = shvL y d ↔ ∀ i, i < x.length → times (x.getD i 0) g = times (y.getD i 0) d := by
  constructor
  · intro e i hi
    rw [← shv_get hi, e, shv_get (by omega)]
  · intro e
    exact list_ext0 (by rw [shv_len, shv_len, h]) fun i hi => by
      rw [shv_len] at hi
      rw [shv_get hi, shv_get (by omega)]; exact e i hi
theorem shv_is {x y : List Int} {g : Int} (h : x.length = y.length) : shvL x g = y ↔ ∀ i, i < x.length → times (x.getD i 0) g = y.getD i 0 := by
  constructor
  · intro e i hi
    rw [← shv_get hi, e]
  · intro e
    exact list_ext0 (by rw [shv_len, h]) fun i hi => by
      rw [shv_len] at hi
      rw [shv_get hi]; exact e i hi
def Vals (x : List Int) : Prop := ∀ i, i < x.length → isVal (x.getD i 0) = true
theorem maxL_vals {x : List Int} (h : Vals x) : isVal (maxL x) = true := by
  rcases maxL_mem x with e | ⟨i, hi, e⟩
  · rw [e]; rfl
  · rw [← e]; exact h i hi
/-- A list that is y shifted by g has the same pattern, and a greatest element shifted by g. -/
theorem nrm_of {x y : List Int} {g : Int} (hl : x.length = y.length) (hx : Vals x) (hy : Vals y) (hg : -10000000 ≤ g) (hg2 : g ≤ 10000000) (h : shvL x g = y) : nrm x = nrm y ∧ times (maxL x) g = maxL y := by
  rw [shv_is hl] at h
  have hm : times (maxL x) g = maxL y := by
    have v := isVal_t (maxL_vals hx)
    have v2 := isVal_t (maxL_vals hy)
    rcases maxL_mem x with e | ⟨i, hi, e⟩
    · rcases maxL_mem y with e2 | ⟨j, hj, e2⟩
      · rw [e, e2]; rfl
      · have h3 := h j (by omega)
        have h4 := maxL_ge (x := x) (i := j) (by omega)
        have h5 := isVal_t (hx j (by omega))
        have h6 : x.getD j 0 = -1000000000000000 := by omega
        rw [h6] at h3
        rw [e, ← e2, ← h3]
    · have h3 := h i hi
      rw [e] at h3
      have h4 := maxL_ge (x := y) (i := i) (by omega)
      rw [← h3] at h4
      rcases maxL_mem y with e2 | ⟨j, hj, e2⟩
      · have h5 := maxL_low y
        unfold times at h4 ⊢
        split
        · exact e2.symm
        · rename_i hn
          rw [if_neg hn, e2] at h4
          omega
      · have h5 := h j (by omega)
        have h6 := maxL_ge (x := x) (i := j) (by omega)
        have h7 := isVal_t (hx j (by omega))
        rw [e2] at h5
        unfold times at h5 h4 ⊢
        split at h5 <;> split at h4 <;> split <;> omega
  refine ⟨?_, hm⟩
  unfold nrm
  rw [shv_eq hl]
  intro i hi
  have h3 := h i hi
  have v := isVal_t (maxL_vals hx)
  have v2 := isVal_t (maxL_vals hy)
  have v3 := isVal_t (hx i hi)
  have v4 := isVal_t (hy i (by omega))
  have v5 := maxL_ge hi
  rw [← hm] at v2 ⊢
  rw [← h3] at v4 ⊢
  unfold times at *
  split <;> split <;> split at * <;> omega
theorem gapI_bd {x y : List Int} (hl : x.length = y.length) (hx : Vals x) (hy : Vals y) : -2000000 ≤ gapI x y ∧ gapI x y ≤ 2000000 := by
  rcases gapI_spec x y hl with ⟨i, hi, h1, h2, h3⟩ | ⟨h1, h2⟩
  · have v3 := isVal_t (hx i hi)
    have v4 := isVal_t (hy i (by omega))
    omega
  · omega
theorem nrm_gap {x y : List Int} (hl : x.length = y.length) (hx : Vals x) (hy : Vals y) (h : nrm x = nrm y) : gapI x y = maxL y - maxL x ∧ shvL x (gapI x y) = y := by
  unfold nrm at h
  rw [shv_eq hl] at h
  have v := isVal_t (maxL_vals hx)
  have v2 := isVal_t (maxL_vals hy)
  have hb : ∀ i, i < x.length → (x.getD i 0 = -1000000000000000 ↔ y.getD i 0 = -1000000000000000) := fun i hi => by
    have h3 := h i hi
    have v3 := isVal_t (hx i hi)
    have v4 := isVal_t (hy i (by omega))
    unfold times at h3
    split at h3 <;> split at h3 <;> omega
  have hd : ∀ i, i < x.length → x.getD i 0 ≠ -1000000000000000 → y.getD i 0 - x.getD i 0 = maxL y - maxL x := fun i hi hne => by
    have h3 := h i hi
    have v3 := isVal_t (hx i hi)
    have v4 := isVal_t (hy i (by omega))
    have v5 := maxL_ge hi
    have v6 := maxL_ge (x := y) (i := i) (by omega)
    have := hb i hi
    unfold times at h3
    split at h3 <;> split at h3 <;> omega
  have hG : gapI x y = maxL y - maxL x := by
    rcases gapI_spec x y hl with ⟨i, hi, h1, h2, h3⟩ | ⟨h1, h2⟩
    · rw [h3]; exact hd i hi h1
    · rw [h2]
      rcases maxL_mem x with e | ⟨i, hi, e⟩
      · rcases maxL_mem y with e2 | ⟨j, hj, e2⟩
        · omega
        · have h4 := h1 j (by omega)
          have h5 := hb j (by omega)
          omega
      · have h4 := h1 i hi
        have h5 := hb i hi
        have h6 : x.getD i 0 = -1000000000000000 := by omega
        rcases maxL_mem y with e2 | ⟨j, hj, e2⟩
        · omega
        · have h7 := h1 j (by omega)
          have h8 := hb j (by omega)
          omega
  refine ⟨hG, ?_⟩
  rw [shv_is hl]
  intro i hi
  have h1 := hb i hi
  have h2 := hd i hi
  rw [← hG] at h2
  obtain ⟨b1, b2⟩ := gapI_bd hl hx hy
  unfold times
  split <;> omega
theorem gapB_iff {x y : List Int} (hl : x.length = y.length) (hx : Vals x) (hy : Vals y) : gapB x y = true ↔ nrm x = nrm y := by
  unfold gapB
  rw [decide_eq_true_iff]
  constructor
  · intro h
    obtain ⟨b1, b2⟩ := gapI_bd hl hx hy
    exact (nrm_of hl hx hy (by omega) (by omega) h).1
  · intro h
    exact (nrm_gap hl hx hy h).2
/-- IsRepeat's test, both ways. -/
theorem shv_iff {x y : List Int} {g : Int} (hl : x.length = y.length) (hx : Vals x) (hy : Vals y) (hg : -10000000 ≤ g) (hg2 : g ≤ 10000000) : shvL x g = y ↔ (nrm x = nrm y ∧ times (maxL x) g = maxL y) := by
  constructor
  · exact nrm_of hl hx hy hg hg2
  · rintro ⟨h1, h2⟩
    obtain ⟨h3, h4⟩ := nrm_gap hl hx hy h1
    rw [shv_is hl] at h4 ⊢
    intro i hi
    have h5 := h4 i hi
    have v3 := isVal_t (hx i hi)
    have v5 := maxL_ge hi
    have v := isVal_t (maxL_vals hx)
    have v2 := isVal_t (maxL_vals hy)
    rw [h3] at h5
    unfold times at h5 h2 ⊢
    split at h5 <;> split at h2 <;> split <;> omega
end M
end Go.Proofs.Ytmobcobdpemlnaa
