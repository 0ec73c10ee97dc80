/- Texts laid together: Crt, VisZ, Arc, Mean4. -/
import Derived.Test.YtmhpgnndjagogaaQc3
import Derived.Test.YtmhpgnndjagogaaQc6
import Derived.Test.YtmhpgnndjagogaaQc4
import Derived.Maps.Own
import Derived.Maps.OwnOps
import Derived.Maps.Views
import Derived.Test.YtmhpgnndjagogaaQc7
import Derived.Maps.RangeWalk
import Derived.DeepKeys4
import Derived.Test.YtmhpgnndjagogaaQc8
import Derived.Test.YtmhpgnndjagogaaQc11
set_option linter.unusedSimpArgs false
set_option linter.unusedVariables false
set_option linter.unusedSectionVars false
namespace Go.Proofs.Ytmhpgnndjagogaa
namespace M
/-- The matrix shifted by its cycle mean. -/
def crS (R : List (List Int)) (i j : Nat) : Int := shf (ent R) (bestR (ent R) R.length).1 (bestR (ent R) R.length).2 i j
/-- Is the arc from j to i critical? -/
def crB (R : List (List Int)) (j i : Nat) : Bool := decide (times (crS R i j) (starF (crS R) R.length j i) = 0)
def crCode (R : List (List Int)) : Int := if sqB R then (if hasCyc (ent R) R.length then 0 else 4) else 1
theorem cr_code {R : List (List Int)} (h : crCode R = 0) : sqB R = true ∧ hasCyc (ent R) R.length = true := by
  unfold crCode at h
  by_cases h1 : sqB R = true
  · rw [if_pos h1] at h
    by_cases h2 : hasCyc (ent R) R.length = true
    · exact ⟨h1, h2⟩
    · rw [if_neg h2] at h; omega
  · rw [if_neg h1] at h; omega
theorem cr_code_of {R : List (List Int)} (h1 : sqB R = true) (h2 : hasCyc (ent R) R.length = true) : crCode R = 0 := by
  unfold crCode; rw [if_pos h1, if_pos h2]
/-- What is at hand where there is a cycle. -/
theorem cr_t {R : List (List Int)} (h1 : sqB R = true) (h2 : hasCyc (ent R) R.length = true) :
    Near (bestR (ent R) R.length).1 (bestR (ent R) R.length).2 ∧ (∀ i j, i < R.length → j < R.length → Sm 1000001000000 (crS R i j)) ∧ noPos (crS R) R.length = true := by
  obtain ⟨n1, n2, hA⟩ := sq_sm h1
  obtain ⟨hbest, hnear, -⟩ := bestR_best n2 hA h2
  exact ⟨hnear, sh_sm hA hnear, noPos_of_walk n2 hA hnear fun v s w _ _ h3 h4 _ h6 => hbest.2.2.1 v s w h3 h4 h6⟩
theorem times0 {x y : Int} (h : times x y = 0) : x ≠ -1000000000000000 ∧ y ≠ -1000000000000000 := by
  unfold times at h
  split at h
  · omega
  · next k => exact ⟨fun e => k (.inl e), fun e => k (.inr e)⟩
theorem best_crit (R : List (List Int)) (i j : Nat) : (decide (bestF (crS R) R.length i j ≠ -1000000000000000)) = crB R j i := by
  unfold bestF crB
  by_cases h : times (crS R i j) (starF (crS R) R.length j i) = 0
  · rw [if_pos h, decide_eq_true h, decide_eq_true (times0 h).1]
  · rw [if_neg h, decide_eq_false h]; simp
theorem crB_o {R : List (List Int)} (h1 : sqB R = true) (h2 : hasCyc (ent R) R.length = true) {i j : Nat} (hi : i < R.length) (hj : j < R.length) :
    crB R j i = true ↔ omul (o (crS R i j)) (obm (fun i j => o (crS R i j)) R.length R.length j i) = some 0 := by
  obtain ⟨n1, n2, -⟩ := sq_sm h1
  obtain ⟨-, hS, hp⟩ := cr_t h1 h2
  have e1 : o (starF (crS R) R.length j i) = obm (fun i j => o (crS R i j)) R.length R.length j i := by
    unfold starF
    rw [← clo_star n2 hS hp hj hi, o_cbm hS R.length (by omega) j i hj hi]
  rw [← e1, ← o_times (hS i j hi hj) (star_sm n2 hS hp hj hi) (by omega) (by omega)]
  unfold crB
  rw [decide_eq_true_eq]
  constructor
  · intro h; rw [h]; rfl
  · intro h; exact o_inj (by rw [h]; rfl)
section
variable {f : Nat → Nat → Option Int} {n : Nat} (hd : ∀ m, m < n → ole (ofw f m m m) (some 0))
include hd
theorem obm_tri {i k j : Nat} (hi : i < n) (hk : k < n) (hj : j < n) : ole (omul (obm f n n i k) (obm f n n k j)) (obm f n n i j) := by
  rcases obm_att (f := f) (n := n) n i k hi hk with z | ⟨v, s, -, v0, vs, hv, z⟩
  · rw [z]; exact ole_none _
  · rcases obm_att (f := f) (n := n) n k j hk hj with y | ⟨u, t, -, u0, ut, hu, y⟩
    · rw [y, omul_none]; exact ole_none _
    · obtain ⟨x, x0, xs, hx, e⟩ := join_walk (g := f) (n := n) (x := u) (y := v) (s := t) (t := s) (by rw [ut, v0]) hu hv
      rw [z, y, ← e]
      have := owk_star hd x (t + s) hx
      rw [x0, xs, u0, vs] at this
      exact this
/-- A walk of arcs that each weigh what the best way back takes off. -/
theorem crit_walk (v : Nat → Nat) (s : Nat) (hv : ∀ u, u ≤ s → v u < n) (h : ∀ u, u < s → omul (f (v (u + 1)) (v u)) (obm f n n (v u) (v (u + 1))) = some 0) :
    ∃ w, owk f v s = some w ∧ ole (some (-w)) (obm f n n (v 0) (v s)) := by
  induction s with
  | zero => exact ⟨0, rfl, by rw [obm_self hd (hv 0 (Nat.le_refl _))]; exact Int.le_refl _⟩
  | succ s ih =>
    obtain ⟨w, e, hw⟩ := ih (fun u hu => hv u (by omega)) (fun u hu => h u (by omega))
    have hs := h s (by omega)
    cases ea : f (v (s + 1)) (v s) with
    | none => rw [ea] at hs; cases hs
    | some a =>
      rw [ea] at hs
      cases eb : obm f n n (v s) (v (s + 1)) with
      | none => rw [eb] at hs; cases hs
      | some b =>
        rw [eb] at hs
        have hab : a + b = 0 := Option.some.inj hs
        refine ⟨a + w, by show omul (f (v (s + 1)) (v s)) (owk f v s) = _; rw [ea, e]; rfl, ?_⟩
        have ht := obm_tri hd (hv 0 (by omega)) (hv s (by omega)) (hv (s + 1) (Nat.le_refl _))
        refine ole_trans ?_ ht
        cases ec : obm f n n (v 0) (v s) with
        | none => rw [ec] at hw; exact hw.elim
        | some c =>
          rw [ec] at hw
          rw [eb]
          have : -w ≤ c := hw
          show -(a + w) ≤ c + b
          omega
end
/-- Are all arcs of a cycle critical? -/
def crAll (R : List (List Int)) (l : List Int) : Bool := (List.range l.length).all fun k => crB R (vx l k) (vx l ((k + 1) % l.length))
theorem crCycB_t {R : List (List Int)} {l : List Int} (h : cycB R l = true) : 1 ≤ l.length ∧ nodesB R.length l = true ∧ diffB l = true ∧ arW (ent R) l ≠ -1000000000000000 := by
  unfold cycB at h
  rw [Bool.and_eq_true, Bool.and_eq_true, Bool.and_eq_true] at h
  exact ⟨of_decide_eq_true h.1.1.1, h.1.1.2, h.1.2, of_decide_eq_true h.2⟩
/-- A cycle has the greatest mean exactly if all of its arcs are critical. -/
theorem crit_cyc {R : List (List Int)} (h1 : sqB R = true) (h2 : hasCyc (ent R) R.length = true) {l : List Int} (hl : cycB R l = true) :
    decide (meanR (aroundW R l) l.length = bestR (ent R) R.length) = crAll R l := by
  obtain ⟨n1, n2, hA⟩ := sq_sm h1
  obtain ⟨hnear, hS, hp⟩ := cr_t h1 h2
  obtain ⟨l1, hn, hdf, hf⟩ := crCycB_t hl
  have l2 := diffB_len hn hdf
  have hd := o_diag n2 hS hp
  obtain ⟨⟨b1, b2, b3, -⟩, -⟩ := bestR_best n2 hA h2
  have hsh := list_sh hA hnear l1 (by omega) hn
  rw [o_fin hf] at hsh
  have hsh : o (arW (crS R) l) = some ((bestR (ent R) R.length).2 * arW (ent R) l - (l.length : Int) * (bestR (ent R) R.length).1) := hsh
  have ho := list_owk hS l1 (by omega) hn
  have hlt : ∀ u, u % l.length < l.length := fun u => Nat.mod_lt _ (by omega)
  have hvn : ∀ u, vx l (u % l.length) < R.length := fun u => vx_lt hn (hlt u)
  have hmean : meanR (aroundW R l) l.length = bestR (ent R) R.length ↔ (bestR (ent R) R.length).2 * arW (ent R) l = (l.length : Int) * (bestR (ent R) R.length).1 := by
    rw [around_arW]
    have hb := rat_back (n := arW (ent R) l) (d := (l.length : Int)) (by omega)
    have hg := rat_gcd (n := arW (ent R) l) (d := (l.length : Int)) (by omega)
    have hpos := rat_pos (n := arW (ent R) l) (d := (l.length : Int)) (by omega)
    constructor
    · intro e
      have e1 : ratN (arW (ent R) l) l.length = (bestR (ent R) R.length).1 := congrArg Prod.fst e
      have e2 : ratD (arW (ent R) l) l.length = (bestR (ent R) R.length).2 := congrArg Prod.snd e
      rw [e1, e2] at hb
      rw [Int.mul_comm, ← hb]; ac_rfl
    · intro heq
      have e : ratN (arW (ent R) l) l.length * (bestR (ent R) R.length).2 = (bestR (ent R) R.length).1 * ratD (arW (ent R) l) l.length := by
        refine Int.eq_of_mul_eq_mul_left (a := (l.length : Int)) (by omega) ?_
        have e1 : (l.length : Int) * (ratN (arW (ent R) l) l.length * (bestR (ent R) R.length).2) = ratN (arW (ent R) l) l.length * l.length * (bestR (ent R) R.length).2 := by ac_rfl
        have e2 : (l.length : Int) * ((bestR (ent R) R.length).1 * ratD (arW (ent R) l) l.length) = (l.length : Int) * (bestR (ent R) R.length).1 * ratD (arW (ent R) l) l.length := by ac_rfl
        rw [e1, e2, hb, ← heq]; ac_rfl
      obtain ⟨e1, e2⟩ := lowest_eq hpos b1 hg b2 e
      exact Prod.ext e1 e2
  have hall : crAll R l = true ↔ ∀ u, u < l.length → omul (o (crS R (vx l ((u + 1) % l.length)) (vx l (u % l.length)))) (obm (fun i j => o (crS R i j)) R.length R.length (vx l (u % l.length)) (vx l ((u + 1) % l.length))) = some 0 := by
    unfold crAll
    rw [List.all_eq_true]
    constructor
    · intro h u hu
      have := h u (List.mem_range.2 hu)
      rw [← Nat.mod_eq_of_lt hu] at this
      rw [Nat.mod_add_mod] at this
      exact (crB_o h1 h2 (hvn _) (hvn _)).1 this
    · intro h u hu
      have hu := List.mem_range.1 hu
      have := (crB_o h1 h2 (hvn _) (hvn _)).2 (h u hu)
      rw [Nat.mod_eq_of_lt hu] at this
      exact this
  apply Bool.eq_iff_iff.2
  rw [decide_eq_true_eq, hmean, hall]
  constructor
  · intro e u hu
    refine arc_back hd (v := fun u => vx l (u % l.length)) (s := l.length) l1 (by show vx l _ = vx l _; rw [Nat.mod_self, Nat.zero_mod]) (fun u _ => hvn u) ?_ hu
    rw [← ho, hsh]
    show (0 : Int) ≤ _
    omega
  · intro h
    obtain ⟨w, ew, hw⟩ := crit_walk hd (fun u => vx l (u % l.length)) l.length (fun u _ => hvn u) h
    have hc : vx l (l.length % l.length) = vx l (0 % l.length) := by rw [Nat.mod_self, Nat.zero_mod]
    rw [hc, obm_self hd (hvn 0)] at hw
    have hw : -w ≤ 0 := hw
    have hle := owk_diag hd (fun u => vx l (u % l.length)) l.length (fun u _ => hvn u) hc
    rw [ew] at hle
    have hle : w ≤ 0 := hle
    rw [← ho, hsh] at ew
    have ew := Option.some.inj ew
    omega
def crAllK (R : List (List Int)) (l : List Int) (k : Nat) : Bool := (List.range k).all fun k => crB R (vx l k) (vx l (k + 1))
theorem crAllK_next (R : List (List Int)) (l : List Int) (k : Nat) : crAllK R l (k + 1) = (crAllK R l k && crB R (vx l k) (vx l (k + 1))) := by
  unfold crAllK; rw [List.range_succ, List.all_append]; simp
theorem crAllK_less {R : List (List Int)} {l : List Int} {k m : Nat} (h : crAllK R l k = false) (hk : k ≤ m) : crAllK R l m = false := by
  induction m with
  | zero => obtain rfl : k = 0 := by omega
            exact h
  | succ m ih =>
    by_cases e : k = m + 1
    · subst e; exact h
    · rw [crAllK_next, ih (by omega)]; rfl
theorem crAll_split {R : List (List Int)} {l : List Int} {m : Nat} (h : l.length = m + 1) : crAll R l = (crAllK R l m && crB R (vx l m) (vx l 0)) := by
  unfold crAll crAllK
  rw [h, List.range_succ, List.all_append]
  congr 1
  · apply Bool.eq_iff_iff.2
    rw [List.all_eq_true, List.all_eq_true]
    constructor
    · intro q u hu
      have := q u hu
      rw [Nat.mod_eq_of_lt (by have := List.mem_range.1 hu; omega)] at this
      exact this
    · intro q u hu
      have := q u hu
      rw [Nat.mod_eq_of_lt (by have := List.mem_range.1 hu; omega)]
      exact this
  · simp
/-! ### The set of arcs as it is filled -/
def upd2 (S : Nat → Nat → Bool) (f t a b : Nat) : Bool := (decide (a = f) && decide (b = t)) || S a b
def crP (R : List (List Int)) (s t f i : Nat) : Bool := crB R f i && (decide (i < s) || (decide (i = s) && decide (f < t)))
theorem crP_zero (R : List (List Int)) (f i : Nat) : crP R 0 0 f i = false := by unfold crP; simp
theorem crP_put {R : List (List Int)} {s t : Nat} (h : crB R t s = true) (f i : Nat) : upd2 (crP R s t) t s f i = crP R s (t + 1) f i := by
  unfold upd2 crP
  by_cases e : f = t ∧ i = s
  · obtain ⟨rfl, rfl⟩ := e
    simp [h]
  · have e1 : (decide (f = t) && decide (i = s)) = false := by
      by_cases a : f = t
      · by_cases b : i = s
        · exact absurd ⟨a, b⟩ e
        · simp [b]
      · simp [a]
    rw [e1, Bool.false_or]
    by_cases b : i = s
    · have a : f ≠ t := fun a => e ⟨a, b⟩
      have : decide (f < t) = decide (f < t + 1) := by
        by_cases k : f < t
        · rw [decide_eq_true k, decide_eq_true (by omega)]
        · rw [decide_eq_false k, decide_eq_false (by omega)]
      rw [this]
    · rw [decide_eq_false b]; simp
theorem crP_skip {R : List (List Int)} {s t : Nat} (h : crB R t s = false) (f i : Nat) : crP R s t f i = crP R s (t + 1) f i := by
  unfold crP
  by_cases e : f = t ∧ i = s
  · obtain ⟨rfl, rfl⟩ := e
    simp [h]
  · by_cases b : i = s
    · have a : f ≠ t := fun a => e ⟨a, b⟩
      have : decide (f < t) = decide (f < t + 1) := by
        by_cases k : f < t
        · rw [decide_eq_true k, decide_eq_true (by omega)]
        · rw [decide_eq_false k, decide_eq_false (by omega)]
      rw [this]
    · rw [decide_eq_false b]; simp
theorem crP_row {R : List (List Int)} {s n : Nat} {f i : Nat} (hf : f < n) : crP R s n f i = crP R (s + 1) 0 f i := by
  unfold crP
  congr 1
  by_cases a : i < s
  · simp [a, Nat.lt_succ_of_lt a]
  · by_cases b : i = s
    · subst b; simp [hf]
    · have : ¬ i < s + 1 := by omega
      simp [a, b, this]
theorem crP_end {R : List (List Int)} {n f i : Nat} (hi : i < n) : crP R n 0 f i = crB R f i := by unfold crP; simp [hi]
/-! ### The results -/
def arcRow (R : List (List Int)) (j k : Nat) : List (List Int) := (List.range k).flatMap fun i => if crB R j i then [[(j : Int), (i : Int)]] else []
def arcsP (R : List (List Int)) (k : Nat) : List (List Int) := (List.range k).flatMap fun j => arcRow R j R.length
def arcsL (R : List (List Int)) : List (List Int) := arcsP R R.length
def arcsRes (R : List (List Int)) : List (List Int) × Int := if crCode R = 0 then (arcsL R, 0) else ([], crCode R)
theorem arcRow_next (R : List (List Int)) (j k : Nat) : arcRow R j (k + 1) = arcRow R j k ++ (if crB R j k then [[(j : Int), (k : Int)]] else []) := by
  unfold arcRow; rw [List.range_succ, List.flatMap_append]; simp
theorem arcsP_next (R : List (List Int)) (k : Nat) : arcsP R (k + 1) = arcsP R k ++ arcRow R k R.length := by
  unfold arcsP; rw [List.range_succ, List.flatMap_append]; simp
theorem arcRow_len (R : List (List Int)) (j k : Nat) : (arcRow R j k).length ≤ k := by
  induction k with
  | zero => simp [arcRow]
  | succ k ih => rw [arcRow_next, List.length_append]; split <;> simp <;> omega
theorem arcsP_len (R : List (List Int)) (k : Nat) : (arcsP R k).length ≤ k * R.length := by
  induction k with
  | zero => simp [arcsP]
  | succ k ih =>
    rw [arcsP_next, List.length_append, Nat.succ_mul]
    have := arcRow_len R k R.length
    omega
def crN (R : List (List Int)) (j : Nat) : Bool := (List.range R.length).any fun i => crB R j i
def nodesP (R : List (List Int)) (k : Nat) : List Int := ((List.range k).filter (crN R)).map fun i : Nat => (i : Int)
def nodesL (R : List (List Int)) : List Int := nodesP R R.length
def nodesRes (R : List (List Int)) : List Int × Int := if crCode R = 0 then (nodesL R, 0) else ([], crCode R)
def crF (R : List (List Int)) (i j : Nat) : Int := if crB R j i then ent R i j else -1000000000000000
def crM (R : List (List Int)) : List (List Int) := mk R.length R.length (crF R)
def matRes (R : List (List Int)) : List (List Int) × Int := if crCode R = 0 then (crM R, 0) else ([], crCode R)
def isCritRes (R : List (List Int)) (l : List Int) : Bool × Int := if crCode R = 0 then (cycB R l && crAll R l, 0) else (false, crCode R)
def crComps (R : List (List Int)) : List (List Int) := (compsL (ent (crM R)) R.length).filter fun l => crN R (vx l 0)
def compRes (R : List (List Int)) : List (List Int) × Int := if crCode R = 0 then (crComps R, 0) else ([], crCode R)
end M
end Go.Proofs.Ytmhpgnndjagogaa

namespace Go.Proofs.Ytmhpgnndjagogaa.V
set_option maxRecDepth 100000
open Go.RowKit Go.Maps
theorem keyI : Keyed Try.prog 2 := int_keyed Try.underlying2
theorem zeroB (w : World) : (zeroValue 4).run Try.prog w = .ok (.bool false) w := by kernel_rfl
theorem keyAt (t : Nat) (ht : t < 1000) : keyOf Try.prog 2 (.int .i64 (t : Int)) = some (.int .i64 (t : Int)) := keyOf_int_mk Try.underlying2 (WalkArith.wf_i64 (by omega))
/-- Block b is a map that holds the set S of the n nodes. -/
def IsSet (w : World) (b n : Nat) (S : Nat → Bool) : Prop :=
  ∃ D : DataW Unit, w.ownsMap Try.prog 2 (plainElem Try.prog 4) b (M.cnt S n) D ∧ IsMap D ∧ ∀ t : Nat, t < n → D.atKey (.int .i64 (t : Int)) (.lit (.bool false)) = .lit (.bool (S t))
theorem IsSet.lt {w : World} {b n : Nat} {S : Nat → Bool} (h : IsSet w b n S) : b < w.heap.size := by
  obtain ⟨D, h, -⟩ := h
  exact h.lt
theorem IsSet.block {w w' : World} {b n : Nat} {S : Nat → Bool} (h : IsSet w b n S) (e : w'.heap[b]? = w.heap[b]?) : IsSet w' b n S := by
  obtain ⟨D, ⟨es, clock, hb, F, hs, hD⟩, h2, h3⟩ := h
  exact ⟨D, ⟨es, clock, e.trans hb, F, hs, hD⟩, h2, h3⟩
theorem IsSet.below {w w' : World} {B b n : Nat} {S : Nat → Bool} (h : IsSet w b n S) (hb : Below B w w') (hB : b < B) : IsSet w' b n S := h.block (hb.block b hB)
theorem IsSet.congr {w : World} {b n : Nat} {S S' : Nat → Bool} (h : IsSet w b n S) (e : ∀ i, i < n → S i = S' i) : IsSet w b n S' := by
  obtain ⟨D, h1, h2, h3⟩ := h
  exact ⟨D, by rw [← M.cnt_congr e]; exact h1, h2, fun t ht => by rw [h3 t ht, e t ht]⟩
theorem isSet_made (w : World) (n : Nat) : IsSet (w.alloc (.map #[] 0)) w.heap.size n (fun _ => false) :=
  ⟨.map [], by rw [M.cnt_none fun _ _ => rfl]; exact World.ownsMap_made _ _ _ _, ⟨[], rfl⟩, fun _ _ => rfl⟩
theorem plainElem_bool_inv {v : Value} {z : DataW Unit × List MemPlace} (h : plainElem Try.prog 4 v = some z) : ∃ x, v = .bool x ∧ z = (.lit (.bool x), []) := by
  unfold plainElem at h
  rw [Try.underlying4] at h
  cases v <;> simp at h
  exact ⟨_, rfl, h.symm⟩
end Go.Proofs.Ytmhpgnndjagogaa.V

namespace Go.Proofs.Ytmhpgnndjagogaa.V
set_option maxRecDepth 100000
open Go.RowKit Go.Maps
end Go.Proofs.Ytmhpgnndjagogaa.V

namespace Go.Proofs.Ytmhpgnndjagogaa.V
set_option maxRecDepth 100000
open Go.RowKit Go.Maps
abbrev arcV (f t : Nat) : Value := .agg #[.int .i64 (f : Int), .int .i64 (t : Int)]
def akey (f t : Nat) : Lit := .string (keyBytes [.int .i64 (f : Int), .int .i64 (t : Int)])
theorem arcLaid : laidOutB Try.prog = true := by kernel_rfl
theorem arcRowLt : (59 : TypeId) < Try.prog.types.size := of_decide_eq_true (by kernel_rfl)
theorem arcWide : (match Try.prog.underlying 59 with | some (.array _ _) | some (.struct _) => true | _ => false) = true := by rw [Try.underlying59]
theorem keyA : Keyed Try.prog 59 := Keyed.of_law (deep_law_laid arcLaid (m := 2) (by omega) arcRowLt (by kernel_rfl) arcWide)
theorem arcKeyType : Try.prog.keyType 59 = true := by kernel_rfl
theorem arcCells : Try.prog.cellsOf 59 = 2 := by kernel_rfl
theorem arcCells1 : Try.prog.cellsOf 2 = 1 := by kernel_rfl
theorem typesPos : ∃ m, Try.prog.types.size = m + 1 := ⟨_, (Nat.succ_pred_eq_of_pos (Nat.lt_of_le_of_lt (Nat.zero_le _) arcRowLt)).symm⟩
theorem akeyAt (f t : Nat) (hf : f < 1000) (ht : t < 1000) : keyOf Try.prog 59 (arcV f t) = some (akey f t) := by
  obtain ⟨m, hm⟩ := typesPos
  have w1 : (Lit.int .i64 (f : Int)).wf = true := WalkArith.wf_i64 (by omega)
  have w2 : (Lit.int .i64 (t : Int)).wf = true := WalkArith.wf_i64 (by omega)
  unfold keyOf
  rw [Try.underlying59]
  have hfm : (arcV f t).formed Try.prog 59 = true := by simp [Value.formed, Try.underlying59, arcCells]
  simp only [arcKeyType, hfm, Bool.and_self, if_true]
  rw [hm]
  simp [Program.keyLits, Try.underlying59, Try.underlying2, arcCells, arcCells1, Value.cells, w1, w2, akey]
theorem akey_inj {f t f' t' : Nat} (h1 : f < 1000) (h2 : t < 1000) (h3 : f' < 1000) (h4 : t' < 1000) (h : akey f t = akey f' t') : f = f' ∧ t = t' := by
  have e := keyA.inj (akeyAt f t h1 h2) (by rw [h]; exact akeyAt f' t' h3 h4)
  injection e with e
  simp at e
  exact ⟨by omega, by omega⟩
theorem akeyKey (f t : Nat) : WideAt.IsKeyLit (akey f t) := trivial
/-- The datum holds the set S of pairs of nodes. -/
def IsArcD (D : DataW Unit) (n : Nat) (S : Nat → Nat → Bool) : Prop :=
  IsMap D ∧ (∀ f t, f < n → t < n → D.atKey (akey f t) (.lit (.bool false)) = .lit (.bool (S f t))) ∧ (∀ f t, f < n → t < n → Maps.has D (akey f t) = S f t) ∧ (∀ kl, Maps.has D kl = true → ∃ f t, f < n ∧ t < n ∧ kl = akey f t)
/-- Block b is a map of at most m arcs. -/
def IsArcs (w : World) (b n m : Nat) (S : Nat → Nat → Bool) : Prop :=
  ∃ D : DataW Unit, w.ownsMap Try.prog 59 (plainElem Try.prog 4) b m D ∧ IsArcD D n S
theorem IsArcs.lt {w : World} {b n m : Nat} {S : Nat → Nat → Bool} (h : IsArcs w b n m S) : b < w.heap.size := by
  obtain ⟨D, h, -⟩ := h
  exact h.lt
theorem IsArcs.block {w w' : World} {b n m : Nat} {S : Nat → Nat → Bool} (h : IsArcs w b n m S) (e : w'.heap[b]? = w.heap[b]?) : IsArcs w' b n m S := by
  obtain ⟨D, ⟨es, clock, hb, F, hs, hD⟩, h2⟩ := h
  exact ⟨D, ⟨es, clock, e.trans hb, F, hs, hD⟩, h2⟩
theorem IsArcs.below {w w' : World} {B b n m : Nat} {S : Nat → Nat → Bool} (h : IsArcs w b n m S) (hb : Below B w w') (hB : b < B) : IsArcs w' b n m S := h.block (hb.block b hB)
theorem IsArcs.mono {w : World} {b n m m' : Nat} {S : Nat → Nat → Bool} (h : IsArcs w b n m S) (hm : m ≤ m') : IsArcs w b n m' S := by
  obtain ⟨D, h1, h2⟩ := h
  exact ⟨D, h1.mono hm, h2⟩
theorem IsArcD.congr {D : DataW Unit} {n : Nat} {S S' : Nat → Nat → Bool} (h : IsArcD D n S) (e : ∀ f t, f < n → t < n → S f t = S' f t) : IsArcD D n S' := by
  obtain ⟨h1, h2, h3, h4⟩ := h
  exact ⟨h1, fun f t hf ht => by rw [h2 f t hf ht, e f t hf ht], fun f t hf ht => by rw [h3 f t hf ht, e f t hf ht], h4⟩
theorem IsArcs.congr {w : World} {b n m : Nat} {S S' : Nat → Nat → Bool} (h : IsArcs w b n m S) (e : ∀ f t, f < n → t < n → S f t = S' f t) : IsArcs w b n m S' := by
  obtain ⟨D, h1, h2⟩ := h
  exact ⟨D, h1, h2.congr e⟩
theorem isArcs_made (w : World) (n : Nat) : IsArcs (w.alloc (.map #[] 0)) w.heap.size n 0 (fun _ _ => false) :=
  ⟨.map [], World.ownsMap_made _ _ _ _, ⟨[], rfl⟩, fun _ _ _ _ => rfl, fun _ _ _ _ => rfl, fun kl h => by cases h⟩
theorem IsArcs.look {w : World} {b n m : Nat} {S : Nat → Nat → Bool} (h : IsArcs w b n m S) (hn : n ≤ 10) (f t : Nat) (hf : f < n) (ht : t < n) : (Instr.lookup 51 (.map (some b)) (arcV f t) false).run Try.prog w = .ok (.bool (S f t)) w := by
  obtain ⟨D, h1, -, h3, -⟩ := h
  obtain ⟨v, ps, hr, hv⟩ := h1.lookup keyA Try.underlying51 (zeroB w) (plainElem_bool Try.underlying4 false) (akeyAt f t (by omega) (by omega))
  rw [h3 f t hf ht] at hv
  obtain ⟨x, rfl, hz⟩ := plainElem_bool_inv hv
  simp only [Prod.mk.injEq, DataW.lit.injEq, Lit.bool.injEq] at hz
  rw [hr, hz.1]
theorem IsArcD.put {D : DataW Unit} {n : Nat} {S : Nat → Nat → Bool} (h : IsArcD D n S) (hn : n ≤ 10) {f t : Nat} (hf : f < n) (ht : t < n) : IsArcD (D.put (akey f t) (.lit (.bool true))) n (M.upd2 S f t) := by
  obtain ⟨h1, h2, h3, h4⟩ := h
  have hne : ∀ f' t', f' < n → t' < n → ¬ (f' = f ∧ t' = t) → akey f' t' ≠ akey f t := fun f' t' a b c e => c (akey_inj (by omega) (by omega) (by omega) (by omega) e)
  have hu : ∀ f' t', ¬ (f' = f ∧ t' = t) → M.upd2 S f t f' t' = S f' t' := fun f' t' c => by
    unfold M.upd2
    by_cases a : f' = f
    · by_cases b : t' = t
      · exact absurd ⟨a, b⟩ c
      · simp [b]
    · simp [a]
  refine ⟨h1.put _ _, fun f' t' a b => ?_, fun f' t' a b => ?_, fun kl hk => ?_⟩
  · by_cases c : f' = f ∧ t' = t
    · obtain ⟨rfl, rfl⟩ := c
      rw [atKey_put_same h1 (akeyKey _ _)]
      unfold M.upd2; simp
    · rw [atKey_put_other (hne f' t' a b c), h2 f' t' a b, hu f' t' c]
  · by_cases c : f' = f ∧ t' = t
    · obtain ⟨rfl, rfl⟩ := c
      rw [has_put_same h1 (akeyKey _ _)]
      unfold M.upd2; simp
    · rw [has_put_other (hne f' t' a b c), h3 f' t' a b, hu f' t' c]
  · by_cases c : kl = akey f t
    · exact ⟨f, t, hf, ht, c⟩
    · rw [has_put_other c] at hk
      exact h4 kl hk
theorem wpList_putA (w : World) {ops : Array Oper} {rest : List Oper} {o : Oper} {a : Act} {Q : Exit → Act → World → Prop}
    (hg : o.guard = none) (m x v : Operand) (hop : o.op = Op.mapUpdate 51 m x v) (b n M0 : Nat) (S : Nat → Nat → Bool) (f t : Nat)
    (hm : a.eval m = .map (some b)) (hown : IsArcs w b n M0 S) (hn : n ≤ 10) (hM : M0 < 1000) (hf : f < n) (ht : t < n) (hx : a.eval x = arcV f t) (hv : a.eval v = .bool true)
    (hK : ∀ w', IsArcs w' b n (M0 + 1) (M.upd2 S f t) → w.grownBy w' (some b) → wpList Try.prog ops Q rest (a.put o.dst undef) w') :
    wpList Try.prog ops Q (o :: rest) a w := by
  obtain ⟨D, h1, h2⟩ := hown
  exact wpList_mapUpdate_own w hg m x v 51 hop 59 4 keyA Try.underlying51 _ b M0 D hm h1 (by unfold maxLen; omega) _ _ _ hx hv (akeyAt f t (by omega) (by omega)) _ [] (plainElem_bool Try.underlying4 true) fun w' h' hg' => hK w' ⟨_, h', h2.put hn hf ht⟩ hg'
/-- A range over the arcs of block b, by the iterator r: L tells which of the arcs S are still to come. -/
def RngA (w : World) (b r n m : Nat) (S L : Nat → Nat → Bool) (cnt : Nat) : Prop :=
  ∃ (D : DataW Unit) (left : Lit → Bool), w.ranges Try.prog 59 (plainElem Try.prog 4) b r m D left cnt ∧ IsArcD D n S ∧ (∀ kl, left kl = true → Maps.has D kl = true) ∧ ∀ f t, f < n → t < n → left (akey f t) = L f t
theorem RngA.owns {w : World} {b r n m cnt : Nat} {S L : Nat → Nat → Bool} (h : RngA w b r n m S L cnt) : IsArcs w b n m S := by
  obtain ⟨D, left, h1, h2, -⟩ := h
  exact ⟨D, h1.owns, h2⟩
theorem RngA.lt {w : World} {b r n m cnt : Nat} {S L : Nat → Nat → Bool} (h : RngA w b r n m S L cnt) : r < w.heap.size := by
  obtain ⟨D, left, h1, -⟩ := h
  exact h1.lt
theorem RngA.left_eq {w : World} {b r n m cnt : Nat} {S L : Nat → Nat → Bool} (h : RngA w b r n m S L cnt) : w.rangeLeft b r = cnt := by
  obtain ⟨D, left, h1, -⟩ := h
  exact h1.left_eq
theorem RngA.blocks {w w' : World} {b r n m cnt : Nat} {S L : Nat → Nat → Bool} (h : RngA w b r n m S L cnt) (e1 : w'.heap[b]? = w.heap[b]?) (e2 : w'.heap[r]? = w.heap[r]?) : RngA w' b r n m S L cnt := by
  obtain ⟨D, left, ⟨es, clock, since, seen, c0, hb, F, hs, hD, hr, rest⟩, h2⟩ := h
  exact ⟨D, left, ⟨es, clock, since, seen, c0, e1.trans hb, F, hs, hD, e2.trans hr, rest⟩, h2⟩
theorem wpList_rangeA (w : World) {ops : Array Oper} {rest : List Oper} {o : Oper} {a : Act} {Q : Exit → Act → World → Prop}
    (hg : o.guard = none) (m : Operand) (hop : o.op = Op.range 51 m) (b n M0 : Nat) (S : Nat → Nat → Bool)
    (hm : a.eval m = .map (some b)) (hown : IsArcs w b n M0 S)
    (hK : ∀ w' cnt, RngA w' b w.heap.size n M0 S S cnt → cnt ≤ M0 → w.grownBy w' none → w'.heap.size = w.heap.size + 1 → wpList Try.prog ops Q rest (a.put o.dst (.pointer (some ⟨w.heap.size, 0, none⟩))) w') :
    wpList Try.prog ops Q (o :: rest) a w := by
  obtain ⟨D, h1, h2⟩ := hown
  have hsz : Maps.size D ≤ M0 := by
    obtain ⟨es, clock, -, -, hle, rfl⟩ := h1
    simp only [Maps.size, length_sorted, List.length_map]
    simpa using hle
  exact wpList_range_own w hg m 51 hop 59 4 keyA Try.underlying51 _ b M0 D hm h1 fun w' hr hgr hz => hK w' _ ⟨D, _, hr, h2, fun _ h => h, h2.2.2.1⟩ hsz hgr hz
def strike (L : Nat → Nat → Bool) (f t a b : Nat) : Bool := L a b && !(decide (a = f) && decide (b = t))
theorem wpList_nextA (w : World) {ops : Array Oper} {rest : List Oper} {o : Oper} {a : Act} {Q : Exit → Act → World → Prop}
    (hg : o.guard = none) (it : Operand) (hop : o.op = Op.next it false) (b r n M0 : Nat) (S L : Nat → Nat → Bool) (cnt : Nat) (hn : n ≤ 10)
    (hit : a.eval it = .pointer (some ⟨r, 0, none⟩)) (h : RngA w b r n M0 S L cnt)
    (hDone : (∀ f t, f < n → t < n → L f t = false) → wpList Try.prog ops Q rest (a.put o.dst (.tuple #[.bool false])) w)
    (hMore : ∀ (f t : Nat) (w' : World) (cnt' : Nat), f < n → t < n → L f t = true → S f t = true → RngA w' b r n M0 S (strike L f t) cnt' → cnt' < cnt → w.grownBy w' (some r) → w'.heap.size = w.heap.size →
      (Instr.entry (.pointer (some ⟨r, 0, none⟩))).run Try.prog w' = .ok (.tuple #[arcV f t, .bool true]) w' → wpList Try.prog ops Q rest (a.put o.dst (.tuple #[.bool true, arcV f t, .bool true])) w') :
    wpList Try.prog ops Q (o :: rest) a w := by
  obtain ⟨D, left, h1, h2, h3, h4⟩ := h
  refine wpList_plain hg fun K' hK' => ?_
  unfold Oper.wp
  rcases h1.next keyA o.type with ⟨h0, hl, hrun⟩ | ⟨key, v, kl, y, w', cnt', hkey, hlk, hv, hat, hrun, hrg, hlt, hgr, hsz, hen⟩
  · simp [execOp, hop, hit, hrun, Result.andThen]
    exact hK' _ _ (hDone fun f t hf ht => by rw [← h4 f t hf ht, hl])
  · obtain ⟨f, t, hf, ht, rfl⟩ := h2.2.2.2 kl (h3 kl hlk)
    obtain rfl := keyA.inj hkey (akeyAt f t (by omega) (by omega))
    obtain ⟨x, rfl, hz⟩ := plainElem_bool_inv hv
    have hS : S f t = true := by rw [← h2.2.2.1 f t hf ht]; exact h3 _ hlk
    have hx : x = true := by
      have e := hat (.lit (.bool false))
      rw [h2.2.1 f t hf ht, hS, hz] at e
      injection e with e
      injection e with e
      exact e.symm
    subst hx
    simp [execOp, hop, hit, hrun, Result.andThen]
    refine hK' _ _ (hMore f t w' cnt' hf ht (by rw [← h4 f t hf ht]; exact hlk) hS ⟨D, _, hrg, h2, fun kl hk => h3 kl (by simp at hk; exact hk.1), fun f' t' a b => ?_⟩ hlt hgr hsz hen)
    show (left (akey f' t') && !(akey f' t').sameKey (akey f t)) = strike L f t f' t'
    unfold strike
    rw [h4 f' t' a b]
    congr 1
    by_cases c : f' = f ∧ t' = t
    · obtain ⟨rfl, rfl⟩ := c
      rw [WideAt.sameKey_self (akeyKey _ _)]; simp
    · have hne : akey f' t' ≠ akey f t := fun e => c (akey_inj (by omega) (by omega) (by omega) (by omega) e)
      rw [sameKey_ne hne]
      by_cases p : f' = f
      · by_cases q : t' = t
        · exact absurd ⟨p, q⟩ c
        · simp [q]
      · simp [p]
end Go.Proofs.Ytmhpgnndjagogaa.V

namespace Go.Proofs.Ytmhpgnndjagogaa.V
open Go.RowKit
theorem sm_of {w : World} {a : Option Addr} {n : Nat} {R : List (List Int)} (h : Mat w a n R) (hs : M.sqB R = true) : ∀ i j, i < n → j < n → M.Sm 1000000 (M.ent R i j) := by
  exact (sq_parts h hs).2.2.2




end Go.Proofs.Ytmhpgnndjagogaa.V
