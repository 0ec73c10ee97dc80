/- Texts laid together: Crt, Vec, IsMat. -/
import Derived.Test.YthonlfjjgmmnpaaQf6
import Derived.Test.YthonlfjjgmmnpaaRows
import Derived.Test.YthonlfjjgmmnpaaQf1
import Derived.Test.YthonlfjjgmmnpaaQf2
import Derived.WalkKit
import Derived.ProofKit
import Derived.WalkSmall
import Derived.Deep.QuietTactic
import Derived.BigQuiet
import Derived.BigRegion
import Derived.Deep.Draws
import Derived.Lib.Hide
import Derived.OpenShut
import Derived.Deep.OwnRows
import Derived.Test.YthonlfjjgmmnpaaQf3
namespace Go.Proofs.Ythonlfjjgmmnpaa
namespace M
/-- The matrix shifted by its cycle mean. -/
def crS (R : List (List Int)) (i j : Nat) : Int := shf (ent R) (bestR (ent R) R.length).1 (bestR (ent R) R.length).2 i j
/-- Is the arc from j to i critical? -/
def crB (R : List (List Int)) (j i : Nat) : Bool := decide (times (crS R i j) (starF (crS R) R.length j i) = 0)
def crCode (R : List (List Int)) : Int := if sqB R then (if hasCyc (ent R) R.length then 0 else 4) else 1
theorem cr_code {R : List (List Int)} (h : crCode R = 0) : sqB R = true ∧ hasCyc (ent R) R.length = true := by
  unfold crCode at h
  by_cases h1 : sqB R = true
  · rw [if_pos h1] at h
    by_cases h2 : hasCyc (ent R) R.length = true
    · exact ⟨h1, h2⟩
    · rw [if_neg h2] at h; omega
  · rw [if_neg h1] at h; omega
theorem cr_code_of {R : List (List Int)} (h1 : sqB R = true) (h2 : hasCyc (ent R) R.length = true) : crCode R = 0 := by
  unfold crCode; rw [if_pos h1, if_pos h2]
/-- What is at hand where there is a cycle. -/
theorem cr_t {R : List (List Int)} (h1 : sqB R = true) (h2 : hasCyc (ent R) R.length = true) :
    Near (bestR (ent R) R.length).1 (bestR (ent R) R.length).2 ∧ (∀ i j, i < R.length → j < R.length → Sm 1000001000000 (crS R i j)) ∧ noPos (crS R) R.length = true := by
  obtain ⟨n1, n2, hA⟩ := sq_sm h1
  obtain ⟨hbest, hnear, -⟩ := bestR_best n2 hA h2
  exact ⟨hnear, sh_sm hA hnear, noPos_of_walk n2 hA hnear fun v s w _ _ h3 h4 _ h6 => hbest.2.2.1 v s w h3 h4 h6⟩
theorem times0 {x y : Int} (h : times x y = 0) : x ≠ -1000000000000000 ∧ y ≠ -1000000000000000 := by
  unfold times at h
  split at h
  · omega
  · next k => exact ⟨fun e => k (.inl e), fun e => k (.inr e)⟩
theorem best_crit (R : List (List Int)) (i j : Nat) : (decide (bestF (crS R) R.length i j ≠ -1000000000000000)) = crB R j i := by
  unfold bestF crB
  by_cases h : times (crS R i j) (starF (crS R) R.length j i) = 0
  · rw [if_pos h, decide_eq_true h, decide_eq_true (times0 h).1]
  · rw [if_neg h, decide_eq_false h]; simp
theorem crB_o {R : List (List Int)} (h1 : sqB R = true) (h2 : hasCyc (ent R) R.length = true) {i j : Nat} (hi : i < R.length) (hj : j < R.length) :
    crB R j i = true ↔ omul (o (crS R i j)) (obm (fun i j => o (crS R i j)) R.length R.length j i) = some 0 := by
  obtain ⟨n1, n2, -⟩ := sq_sm h1
  obtain ⟨-, hS, hp⟩ := cr_t h1 h2
  have e1 : o (starF (crS R) R.length j i) = obm (fun i j => o (crS R i j)) R.length R.length j i := by
    unfold starF
    rw [← clo_star n2 hS hp hj hi, o_cbm hS R.length (by omega) j i hj hi]
  rw [← e1, ← o_times (hS i j hi hj) (star_sm n2 hS hp hj hi) (by omega) (by omega)]
  unfold crB
  rw [decide_eq_true_eq]
  constructor
  · intro h; rw [h]; rfl
  · intro h; exact o_inj (by rw [h]; rfl)
section
variable {f : Nat → Nat → Option Int} {n : Nat} (hd : ∀ m, m < n → ole (ofw f m m m) (some 0))
include hd
theorem obm_tri {i k j : Nat} (hi : i < n) (hk : k < n) (hj : j < n) : ole (omul (obm f n n i k) (obm f n n k j)) (obm f n n i j) := by
  rcases obm_att (f := f) (n := n) n i k hi hk with z | ⟨v, s, -, v0, vs, hv, z⟩
  · rw [z]; exact ole_none _
  · rcases obm_att (f := f) (n := n) n k j hk hj with y | ⟨u, t, -, u0, ut, hu, y⟩
    · rw [y, omul_none]; exact ole_none _
    · obtain ⟨x, x0, xs, hx, e⟩ := join_walk (g := f) (n := n) (x := u) (y := v) (s := t) (t := s) (by rw [ut, v0]) hu hv
      rw [z, y, ← e]
      have := owk_star hd x (t + s) hx
      rw [x0, xs, u0, vs] at this
      exact this
/-- A walk of arcs that each weigh what the best way back takes off. -/
theorem crit_walk (v : Nat → Nat) (s : Nat) (hv : ∀ u, u ≤ s → v u < n) (h : ∀ u, u < s → omul (f (v (u + 1)) (v u)) (obm f n n (v u) (v (u + 1))) = some 0) :
    ∃ w, owk f v s = some w ∧ ole (some (-w)) (obm f n n (v 0) (v s)) := by
  induction s with
  | zero => exact ⟨0, rfl, by rw [obm_self hd (hv 0 (Nat.le_refl _))]; exact Int.le_refl _⟩
  | succ s ih =>
    obtain ⟨w, e, hw⟩ := ih (fun u hu => hv u (by omega)) (fun u hu => h u (by omega))
    have hs := h s (by omega)
    cases ea : f (v (s + 1)) (v s) with
    | none => rw [ea] at hs; cases hs
    | some a =>
      rw [ea] at hs
      cases eb : obm f n n (v s) (v (s + 1)) with
      | none => rw [eb] at hs; cases hs
      | some b =>
        rw [eb] at hs
        have hab : a + b = 0 := Option.some.inj hs
        refine ⟨a + w, by show omul (f (v (s + 1)) (v s)) (owk f v s) = _; rw [ea, e]; rfl, ?_⟩
        have ht := obm_tri hd (hv 0 (by omega)) (hv s (by omega)) (hv (s + 1) (Nat.le_refl _))
        refine ole_trans ?_ ht
        cases ec : obm f n n (v 0) (v s) with
        | none => rw [ec] at hw; exact hw.elim
        | some c =>
          rw [ec] at hw
          rw [eb]
          have : -w ≤ c := hw
          show -(a + w) ≤ c + b
          omega
end
/-- Are all arcs of a cycle critical? -/
def crAll (R : List (List Int)) (l : List Int) : Bool := (List.range l.length).all fun k => crB R (vx l k) (vx l ((k + 1) % l.length))
theorem crCycB_t {R : List (List Int)} {l : List Int} (h : cycB R l = true) : 1 ≤ l.length ∧ nodesB R.length l = true ∧ diffB l = true ∧ arW (ent R) l ≠ -1000000000000000 := by
  unfold cycB at h
  rw [Bool.and_eq_true, Bool.and_eq_true, Bool.and_eq_true] at h
  exact ⟨of_decide_eq_true h.1.1.1, h.1.1.2, h.1.2, of_decide_eq_true h.2⟩
/-- A cycle has the greatest mean exactly if all of its arcs are critical. -/
theorem crit_cyc {R : List (List Int)} (h1 : sqB R = true) (h2 : hasCyc (ent R) R.length = true) {l : List Int} (hl : cycB R l = true) :
    decide (meanR (aroundW R l) l.length = bestR (ent R) R.length) = crAll R l := by
  obtain ⟨n1, n2, hA⟩ := sq_sm h1
  obtain ⟨hnear, hS, hp⟩ := cr_t h1 h2
  obtain ⟨l1, hn, hdf, hf⟩ := crCycB_t hl
  have l2 := diffB_len hn hdf
  have hd := o_diag n2 hS hp
  obtain ⟨⟨b1, b2, b3, -⟩, -⟩ := bestR_best n2 hA h2
  have hsh := list_sh hA hnear l1 (by omega) hn
  rw [o_fin hf] at hsh
  have hsh : o (arW (crS R) l) = some ((bestR (ent R) R.length).2 * arW (ent R) l - (l.length : Int) * (bestR (ent R) R.length).1) := hsh
  have ho := list_owk hS l1 (by omega) hn
  have hlt : ∀ u, u % l.length < l.length := fun u => Nat.mod_lt _ (by omega)
  have hvn : ∀ u, vx l (u % l.length) < R.length := fun u => vx_lt hn (hlt u)
  have hmean : meanR (aroundW R l) l.length = bestR (ent R) R.length ↔ (bestR (ent R) R.length).2 * arW (ent R) l = (l.length : Int) * (bestR (ent R) R.length).1 := by
    rw [around_arW]
    have hb := rat_back (n := arW (ent R) l) (d := (l.length : Int)) (by omega)
    have hg := rat_gcd (n := arW (ent R) l) (d := (l.length : Int)) (by omega)
    have hpos := rat_pos (n := arW (ent R) l) (d := (l.length : Int)) (by omega)
    constructor
    · intro e
      have e1 : ratN (arW (ent R) l) l.length = (bestR (ent R) R.length).1 := congrArg Prod.fst e
      have e2 : ratD (arW (ent R) l) l.length = (bestR (ent R) R.length).2 := congrArg Prod.snd e
      rw [e1, e2] at hb
      rw [Int.mul_comm, ← hb]; ac_rfl
    · intro heq
      have e : ratN (arW (ent R) l) l.length * (bestR (ent R) R.length).2 = (bestR (ent R) R.length).1 * ratD (arW (ent R) l) l.length := by
        refine Int.eq_of_mul_eq_mul_left (a := (l.length : Int)) (by omega) ?_
        have e1 : (l.length : Int) * (ratN (arW (ent R) l) l.length * (bestR (ent R) R.length).2) = ratN (arW (ent R) l) l.length * l.length * (bestR (ent R) R.length).2 := by ac_rfl
        have e2 : (l.length : Int) * ((bestR (ent R) R.length).1 * ratD (arW (ent R) l) l.length) = (l.length : Int) * (bestR (ent R) R.length).1 * ratD (arW (ent R) l) l.length := by ac_rfl
        rw [e1, e2, hb, ← heq]; ac_rfl
      obtain ⟨e1, e2⟩ := lowest_eq hpos b1 hg b2 e
      exact Prod.ext e1 e2
  have hall : crAll R l = true ↔ ∀ u, u < l.length → omul (o (crS R (vx l ((u + 1) % l.length)) (vx l (u % l.length)))) (obm (fun i j => o (crS R i j)) R.length R.length (vx l (u % l.length)) (vx l ((u + 1) % l.length))) = some 0 := by
    unfold crAll
    rw [List.all_eq_true]
    constructor
    · intro h u hu
      have := h u (List.mem_range.2 hu)
      rw [← Nat.mod_eq_of_lt hu] at this
      rw [Nat.mod_add_mod] at this
      exact (crB_o h1 h2 (hvn _) (hvn _)).1 this
    · intro h u hu
      have hu := List.mem_range.1 hu
      have := (crB_o h1 h2 (hvn _) (hvn _)).2 (h u hu)
      rw [Nat.mod_eq_of_lt hu] at this
      exact this
  apply Bool.eq_iff_iff.2
  rw [decide_eq_true_eq, hmean, hall]
  constructor
  · intro e u hu
    refine arc_back hd (v := fun u => vx l (u % l.length)) (s := l.length) l1 (by show vx l _ = vx l _; rw [Nat.mod_self, Nat.zero_mod]) (fun u _ => hvn u) ?_ hu
    rw [← ho, hsh]
    show (0 : Int) ≤ _
    omega
  · intro h
    obtain ⟨w, ew, hw⟩ := crit_walk hd (fun u => vx l (u % l.length)) l.length (fun u _ => hvn u) h
    have hc : vx l (l.length % l.length) = vx l (0 % l.length) := by rw [Nat.mod_self, Nat.zero_mod]
    rw [hc, obm_self hd (hvn 0)] at hw
    have hw : -w ≤ 0 := hw
    have hle := owk_diag hd (fun u => vx l (u % l.length)) l.length (fun u _ => hvn u) hc
    rw [ew] at hle
    have hle : w ≤ 0 := hle
    rw [← ho, hsh] at ew
    have ew := Option.some.inj ew
    omega
def crAllK (R : List (List Int)) (l : List Int) (k : Nat) : Bool := (List.range k).all fun k => crB R (vx l k) (vx l (k + 1))
theorem crAllK_next (R : List (List Int)) (l : List Int) (k : Nat) : crAllK R l (k + 1) = (crAllK R l k && crB R (vx l k) (vx l (k + 1))) := by
  unfold crAllK; rw [List.range_succ, List.all_append]; simp
theorem crAllK_less {R : List (List Int)} {l : List Int} {k m : Nat} (h : crAllK R l k = false) (hk : k ≤ m) : crAllK R l m = false := by
  induction m with
  | zero => obtain rfl : k = 0 := by omega
            exact h
  | succ m ih =>
    by_cases e : k = m + 1
    · subst e; exact h
    · rw [crAllK_next, ih (by omega)]; rfl
theorem crAll_split {R : List (List Int)} {l : List Int} {m : Nat} (h : l.length = m + 1) : crAll R l = (crAllK R l m && crB R (vx l m) (vx l 0)) := by
  unfold crAll crAllK
  rw [h, List.range_succ, List.all_append]
  congr 1
  · apply Bool.eq_iff_iff.2
    rw [List.all_eq_true, List.all_eq_true]
    constructor
    · intro q u hu
      have := q u hu
      rw [Nat.mod_eq_of_lt (by have := List.mem_range.1 hu; omega)] at this
      exact this
    · intro q u hu
      have := q u hu
      rw [Nat.mod_eq_of_lt (by have := List.mem_range.1 hu; omega)]
      exact this
  · simp
/-! ### The set of arcs as it is filled -/
def upd2 (S : Nat → Nat → Bool) (f t a b : Nat) : Bool := (decide (a = f) && decide (b = t)) || S a b
def crP (R : List (List Int)) (s t f i : Nat) : Bool := crB R f i && (decide (i < s) || (decide (i = s) && decide (f < t)))
theorem crP_zero (R : List (List Int)) (f i : Nat) : crP R 0 0 f i = false := by unfold crP; simp
theorem crP_put {R : List (List Int)} {s t : Nat} (h : crB R t s = true) (f i : Nat) : upd2 (crP R s t) t s f i = crP R s (t + 1) f i := by
  unfold upd2 crP
  by_cases e : f = t ∧ i = s
  · obtain ⟨rfl, rfl⟩ := e
    simp [h]
  · have e1 : (decide (f = t) && decide (i = s)) = false := by
      by_cases a : f = t
      · by_cases b : i = s
        · exact absurd ⟨a, b⟩ e
        · simp [b]
      · simp [a]
    rw [e1, Bool.false_or]
    by_cases b : i = s
    · have a : f ≠ t := fun a => e ⟨a, b⟩
      have : decide (f < t) = decide (f < t + 1) := by
        by_cases k : f < t
        · rw [decide_eq_true k, decide_eq_true (by omega)]
        · rw [decide_eq_false k, decide_eq_false (by omega)]
      rw [this]
    · rw [decide_eq_false b]; simp
theorem crP_skip {R : List (List Int)} {s t : Nat} (h : crB R t s = false) (f i : Nat) : crP R s t f i = crP R s (t + 1) f i := by
  unfold crP
  by_cases e : f = t ∧ i = s
  · obtain ⟨rfl, rfl⟩ := e
    simp [h]
  · by_cases b : i = s
    · have a : f ≠ t := fun a => e ⟨a, b⟩
      have : decide (f < t) = decide (f < t + 1) := by
        by_cases k : f < t
        · rw [decide_eq_true k, decide_eq_true (by omega)]
        · rw [decide_eq_false k, decide_eq_false (by omega)]
      rw [this]
    · rw [decide_eq_false b]; simp
theorem crP_row {R : List (List Int)} {s n : Nat} {f i : Nat} (hf : f < n) : crP R s n f i = crP R (s + 1) 0 f i := by
  unfold crP
  congr 1
  by_cases a : i < s
  · simp [a, Nat.lt_succ_of_lt a]
  · by_cases b : i = s
    · subst b; simp [hf]
    · have : ¬ i < s + 1 := by omega
      simp [a, b, this]
theorem crP_end {R : List (List Int)} {n f i : Nat} (hi : i < n) : crP R n 0 f i = crB R f i := by unfold crP; simp [hi]
/-! ### The results -/
def arcRow (R : List (List Int)) (j k : Nat) : List (List Int) := (List.range k).flatMap fun i => if crB R j i then [[(j : Int), (i : Int)]] else []
def arcsP (R : List (List Int)) (k : Nat) : List (List Int) := (List.range k).flatMap fun j => arcRow R j R.length
def arcsL (R : List (List Int)) : List (List Int) := arcsP R R.length
def arcsRes (R : List (List Int)) : List (List Int) × Int := if crCode R = 0 then (arcsL R, 0) else ([], crCode R)
theorem arcRow_next (R : List (List Int)) (j k : Nat) : arcRow R j (k + 1) = arcRow R j k ++ (if crB R j k then [[(j : Int), (k : Int)]] else []) := by
  unfold arcRow; rw [List.range_succ, List.flatMap_append]; simp
theorem arcsP_next (R : List (List Int)) (k : Nat) : arcsP R (k + 1) = arcsP R k ++ arcRow R k R.length := by
  unfold arcsP; rw [List.range_succ, List.flatMap_append]; simp
theorem arcRow_len (R : List (List Int)) (j k : Nat) : (arcRow R j k).length ≤ k := by
  induction k with
  | zero => simp [arcRow]
  | succ k ih => rw [arcRow_next, List.length_append]; split <;> simp <;> omega
theorem arcsP_len (R : List (List Int)) (k : Nat) : (arcsP R k).length ≤ k * R.length := by
  induction k with
  | zero => simp [arcsP]
  | succ k ih =>
    rw [arcsP_next, List.length_append, Nat.succ_mul]
    have := arcRow_len R k R.length
    omega
def crN (R : List (List Int)) (j : Nat) : Bool := (List.range R.length).any fun i => crB R j i
def nodesP (R : List (List Int)) (k : Nat) : List Int := ((List.range k).filter (crN R)).map fun i : Nat => (i : Int)
def nodesL (R : List (List Int)) : List Int := nodesP R R.length
def nodesRes (R : List (List Int)) : List Int × Int := if crCode R = 0 then (nodesL R, 0) else ([], crCode R)
def crF (R : List (List Int)) (i j : Nat) : Int := if crB R j i then ent R i j else -1000000000000000
def crM (R : List (List Int)) : List (List Int) := mk R.length R.length (crF R)
def matRes (R : List (List Int)) : List (List Int) × Int := if crCode R = 0 then (crM R, 0) else ([], crCode R)
def isCritRes (R : List (List Int)) (l : List Int) : Bool × Int := if crCode R = 0 then (cycB R l && crAll R l, 0) else (false, crCode R)
def crComps (R : List (List Int)) : List (List Int) := (compsL (ent (crM R)) R.length).filter fun l => crN R (vx l 0)
def compRes (R : List (List Int)) : List (List Int) × Int := if crCode R = 0 then (crComps R, 0) else ([], crCode R)
end M
end Go.Proofs.Ythonlfjjgmmnpaa

namespace Go.Proofs.Ythonlfjjgmmnpaa.V
open Go.RowKit

set_option maxRecDepth 100000 in
set_option maxHeartbeats 400000 in
theorem plus (a b : Int) (w : World) : Calls Try.prog 105 #[.int .i64 a, .int .i64 b] w fun e w' => e = .returned (.int .i64 (max a b)) ∧ w = w' := by
  go_enter Try.func105, Try.ntmps105
  go_wp2
  all_goals
    go_ret
    exact ⟨retI (by omega), rfl⟩

set_option maxRecDepth 100000 in
set_option maxHeartbeats 400000 in
theorem sAll (a : Option Addr) (n cap : Nat) (l : List Int) (w : World) (h : Ints .i64 w a n l) :
    Calls Try.prog 68 #[.slice a n cap, .bool false] w fun e w' => e = .returned (.bool (l.all M.isVal)) ∧ w = w' := by
  obtain ⟨hl, hm, hr⟩ := h
  unfold maxLen at hm
  have HL := Lib.hid hl
  clear hl
  go_enter Try.func68, Try.ntmps68
  go_wp2
  go_loop [5] (fun i => ∃ k : Nat, k ≤ n ∧ i = .int .i64 k ∧ Hid ((l.take k).all M.isVal = true)) (fun i => n - (intOf i).toNat)
  case atStart => exact ⟨0, Nat.zero_le _, rfl, rfl⟩
  case round =>
    obtain ⟨k, hk, rfl, HA⟩ := hrel
    by_cases hlt : k < n
    · rcases hr with h0 | ⟨b, off, rfl, hbl, hc⟩
      · omega
      · have hck := hc k hlt
        have hsn := M.take_snoc l k (by have := HL.out; omega)
        obtain ⟨x, hx⟩ : ∃ x, x = l.getD k 0 := ⟨_, rfl⟩
        rw [← hx] at hck hsn
        have HX := Lib.hid hx
        have HS := Lib.hid hsn
        clear hc hx hsn
        by_cases hv : M.isVal x = true
        · have HA2 : Hid ((l.take (k + 1)).all M.isVal = true) := by show _ = _; rw [HS.out, M.all_snoc, HA.out, hv]; rfl
          go_wp2_with (first | (go_at_call 98; refine (sIsValue _ _).mono ?_; rintro e w' ⟨rfl, rfl⟩))
          go_round
          case rel => exact ⟨k + 1, by omega, by go_num, HA2⟩
          case measure => simp [intOf]; omega
        · simp only [Bool.not_eq_true] at hv
          have HF : Hid (l.all M.isVal = false) := M.all_false _ l k (by have := HL.out; omega) (by rw [← HX.out]; exact hv)
          go_wp2_with (first | (go_at_call 98; refine (sIsValue _ _).mono ?_; rintro e w' ⟨rfl, rfl⟩))
          go_ret
          exact ⟨retB (by rw [HF.out]), rfl⟩
    · have hkn : k = n := by omega
      subst hkn
      have HT : Hid (l.take k = l) := M.take_all l k (by have := HL.out; omega)
      clear hr
      go_wp2
      go_ret
      exact ⟨retB (by rw [← HT.out, HA.out]), rfl⟩

set_option maxRecDepth 100000 in
set_option maxHeartbeats 400000 in
theorem isSize (n : Int) (w : World) : Calls Try.prog 76 #[.int .i64 n] w fun e w' => e = .returned (.bool (decide (1 ≤ n) && decide (n ≤ 10))) ∧ w = w' := by
  go_enter Try.func76, Try.ntmps76
  go_wp2
  all_goals
    go_ret
    refine ⟨retB ?_, rfl⟩
    grind

set_option maxRecDepth 100000 in
set_option maxHeartbeats 400000 in
theorem isVector (a : Option Addr) (n cap : Nat) (l : List Int) (w : World) (h : Ints .i64 w a n l) :
    Calls Try.prog 44 #[.slice a n cap] w fun e w' => e = .returned (.bool (M.isVec l)) ∧ w = w' := by
  obtain ⟨hl, hm, hr⟩ := h
  unfold maxLen at hm
  have HL := Lib.hid hl
  clear hl
  by_cases hz : 1 ≤ n ∧ n ≤ 10
  · have hd : (decide ((1 : Int) ≤ n) && decide ((n : Int) ≤ 10)) = true := by simp; omega
    obtain ⟨hz1, hz2⟩ := hz
    go_enter Try.func44, Try.ntmps44
    go_wp2_with (first | (go_at_call 76; refine (isSize _ _).mono ?_; rintro e w' ⟨rfl, rfl⟩))
    go_loop [4, 11] (fun _ i => ∃ k : Nat, k ≤ n ∧ i = .int .i64 k ∧ Hid ((l.take k).all M.isVal = true)) (fun _ i => n - (intOf i).toNat)
    case atStart => exact ⟨0, Nat.zero_le _, rfl, rfl⟩
    case round =>
      obtain ⟨k, hk, rfl, HA⟩ := hrel
      by_cases hlt : k < n
      · rcases hr with h0 | ⟨b, off, rfl, hbl, hc⟩
        · omega
        · have hck := hc k hlt
          have hsn := M.take_snoc l k (by have := HL.out; omega)
          obtain ⟨x, hx⟩ : ∃ x, x = l.getD k 0 := ⟨_, rfl⟩
          rw [← hx] at hck hsn
          have HX := Lib.hid hx
          have HS := Lib.hid hsn
          clear hc hx hsn
          by_cases hv : M.isVal x = true
          · have HA2 : Hid ((l.take (k + 1)).all M.isVal = true) := by show _ = _; rw [HS.out, M.all_snoc, HA.out, hv]; rfl
            go_wp2_with (first | (go_at_call 77; refine (isValue _ _).mono ?_; rintro e w' ⟨rfl, rfl⟩))
            go_round
            case rel => exact ⟨k + 1, by omega, by go_num, HA2⟩
            case measure => simp [intOf]; omega
          · simp only [Bool.not_eq_true] at hv
            have HF : Hid (l.all M.isVal = false) := M.all_false _ l k (by have := HL.out; omega) (by rw [← HX.out]; exact hv)
            go_wp2_with (first | (go_at_call 77; refine (isValue _ _).mono ?_; rintro e w' ⟨rfl, rfl⟩))
            go_ret
            exact ⟨retB (by unfold M.isVec; rw [HF.out]; simp), rfl⟩
      · have hkn : k = n := by omega
        subst hkn
        have HT : Hid (l.take k = l) := M.take_all l k (by have := HL.out; omega)
        clear hr
        go_wp2
        go_ret
        exact ⟨retB (by have := HL.out; have h2 := HA.out; rw [HT.out] at h2; rw [M.isVec_all (by omega) (by omega), h2]), rfl⟩
  · have hd : (decide ((1 : Int) ≤ n) && decide ((n : Int) ≤ 10)) = false := by rw [Bool.and_eq_false_iff]; simp; omega
    clear hr
    go_enter Try.func44, Try.ntmps44
    go_wp2_with (first | (go_at_call 76; refine (isSize _ _).mono ?_; rintro e w' ⟨rfl, rfl⟩))
    go_ret
    exact ⟨retB (M.isVec_f (by have := HL.out; omega)).symm, rfl⟩

set_option maxRecDepth 100000 in
set_option maxHeartbeats 400000 in
theorem sVector (a : Option Addr) (n cap : Nat) (l : List Int) (w : World) (h : Ints .i64 w a n l) :
    Calls Try.prog 39 #[.slice a n cap] w fun e w' => e = .returned (.bool (M.isVec l)) ∧ w = w' := by
  have hl := h.1
  have HH := Lib.hid h
  have hm := h.2.1
  unfold maxLen at hm
  clear h
  have HL := Lib.hid hl
  clear hl
  by_cases hz : 1 ≤ n ∧ n ≤ 10
  · have hd : (decide ((1 : Int) ≤ n) && decide ((n : Int) ≤ 10)) = true := by simp; omega
    obtain ⟨hz1, hz2⟩ := hz
    go_enter Try.func39, Try.ntmps39
    go_wp2_with (first | (go_at_call 67; refine (sIn _ _ _ _).mono ?_; rintro e w' ⟨rfl, rfl⟩) | (go_at_call 68; refine (sAll _ _ _ l _ HH.out).mono ?_; rintro e w' ⟨rfl, rfl⟩))
    all_goals
      go_ret
      exact ⟨retB (M.isVec_all (by have := HL.out; omega) (by have := HL.out; omega)).symm, rfl⟩
  · have hd : (decide ((1 : Int) ≤ n) && decide ((n : Int) ≤ 10)) = false := by rw [Bool.and_eq_false_iff]; simp; omega
    go_enter Try.func39, Try.ntmps39
    go_wp2_with (first | (go_at_call 67; refine (sIn _ _ _ _).mono ?_; rintro e w' ⟨rfl, rfl⟩) | (go_at_call 68; refine (sAll _ _ _ l _ HH.out).mono ?_; rintro e w' ⟨rfl, rfl⟩))
    all_goals
      go_ret
      exact ⟨retB (M.isVec_f (by have := HL.out; omega)).symm, rfl⟩
end Go.Proofs.Ythonlfjjgmmnpaa.V

namespace Go.Proofs.Ythonlfjjgmmnpaa.V
open Go.RowKit

set_option maxRecDepth 100000 in
set_option maxHeartbeats 400000 in
theorem isMatrix (a : Option Addr) (n cap : Nat) (R : List (List Int)) (w : World) (h : Mat w a n R) :
    Calls Try.prog 80 #[.slice a n cap] w fun e w' => e = .returned (.bool (M.isMat R)) ∧ w = w' := by
  have HM := Lib.hid h
  have HL := Lib.hid h.1
  have hm := h.2.1
  unfold maxLen at hm
  clear h
  by_cases hz : 1 ≤ n ∧ n ≤ 10
  · have hd : (decide ((1 : Int) ≤ n) && decide ((n : Int) ≤ 10)) = true := by simp; omega
    obtain ⟨hz1, hz2⟩ := hz
    obtain ⟨b, off, ra0, rc0, L0, l0, rfl, hbl, hll0, hc0, hI0⟩ := HM.out.at 0 (by omega)
    have HW : Hid (L0 = M.wid R) := by show _ = _; rw [← hI0.1, hll0]; rfl
    rw [Nat.add_zero] at hc0
    clear hll0 hI0
    go_enter Try.func80, Try.ntmps80
    go_wp2_with (first | (go_at_call 76; refine (isSize _ _).mono ?_; rintro e w' ⟨rfl, rfl⟩))
    go_loop [4, 11] (fun _ i => ∃ k : Nat, k ≤ n ∧ i = .int .i64 k ∧ Hid (∀ i, i < k → M.okR R (R.getD i []) = true)) (fun _ i => n - (intOf i).toNat)
    case atStart => exact ⟨0, Nat.zero_le _, rfl, (fun i hi => absurd hi (Nat.not_lt_zero i))⟩
    case round =>
      obtain ⟨k, hk, rfl, HA⟩ := hrel
      by_cases hlt : k < n
      · obtain ⟨b', off', ra, rc, L, l, hbb, -, hll, hc, hI⟩ := HM.out.at k hlt
        injection hbb with hbb
        injection hbb with e1 e2
        subst e1 e2
        have hlen : l.length = L := hI.1
        have HI := Lib.hid hI
        have HLL := Lib.hid hll
        have HN := Lib.hid hlen
        clear hI hll hlen
        by_cases hLL : L = L0
        · subst hLL
          by_cases hv : M.isVec l = true
          · have HV := Lib.hid hv
            go_wp2_with (first | (go_at_call 44; refine (isVector _ _ _ l _ HI.out).mono ?_; rintro e w' ⟨rfl, rfl⟩))
            go_round
            case rel =>
              refine ⟨k + 1, by omega, by go_num, fun i hi => ?_⟩
              by_cases e : i = k
              · subst e; rw [← HLL.out]; exact M.okR_y HV.out (by rw [HN.out, HW.out])
              · exact HA.out i (by omega)
            case measure => simp [intOf]; omega
          · simp only [Bool.not_eq_true] at hv
            have HV := Lib.hid hv
            go_wp2_with (first | (go_at_call 44; refine (isVector _ _ _ l _ HI.out).mono ?_; rintro e w' ⟨rfl, rfl⟩))
            go_ret
            exact ⟨retB (M.isMat_bad k (by have := HL.out; omega) (by rw [← HLL.out]; exact M.okR_v HV.out)).symm, rfl⟩
        · have HLL0 := Lib.hid hLL
          go_wp2
          go_ret
          exact ⟨retB (M.isMat_bad k (by have := HL.out; omega) (by rw [← HLL.out]; exact M.okR_n (by rw [HN.out, ← HW.out]; exact HLL0.out))).symm, rfl⟩
      · have hkn : k = n := by omega
        subst hkn
        go_wp2
        go_ret
        exact ⟨retB (M.isMat_good (by have := HL.out; omega) (by have := HL.out; omega) (by have := HL.out; rw [this]; exact HA.out)).symm, rfl⟩
  · have hd : (decide ((1 : Int) ≤ n) && decide ((n : Int) ≤ 10)) = false := by rw [Bool.and_eq_false_iff]; simp; omega
    go_enter Try.func80, Try.ntmps80
    go_wp2_with (first | (go_at_call 76; refine (isSize _ _).mono ?_; rintro e w' ⟨rfl, rfl⟩))
    go_ret
    exact ⟨retB (M.isMat_no (by have := HL.out; omega)).symm, rfl⟩

set_option maxRecDepth 100000 in
set_option maxHeartbeats 400000 in
theorem sIsMatrix (a : Option Addr) (n cap : Nat) (R : List (List Int)) (w : World) (h : Mat w a n R) :
    Calls Try.prog 78 #[.slice a n cap] w fun e w' => e = .returned (.bool (M.isMat R)) ∧ ∃ q, w' = w.drewN q := by
  have HM := Lib.hid h
  have HL := Lib.hid h.1
  have hm := h.2.1
  unfold maxLen at hm
  clear h
  by_cases hz : 1 ≤ n ∧ n ≤ 10
  · obtain ⟨hz1, hz2⟩ := hz
    obtain ⟨b, off, ra0, rc0, L0, l0, rfl, hbl, hll0, hc0, hI0⟩ := HM.out.at 0 (by omega)
    have HW : Hid (L0 = M.wid R) := by show _ = _; rw [← hI0.1, hll0]; rfl
    rw [Nat.add_zero] at hc0
    clear hll0 hI0
    go_enter Try.func78, Try.ntmps78
    go_wp2
    go_loopw [3] (fun i wr => ∃ k : Nat, k ≤ n ∧ i = .int .i64 k ∧ Hid (∀ i, i < k → M.okR R (R.getD i []) = true) ∧ ∃ q, wr = w.drewN q) (fun i _ => n - (intOf i).toNat)
    case atStart => exact ⟨0, Nat.zero_le _, rfl, (fun i hi => absurd hi (Nat.not_lt_zero i)), 0, rfl⟩
    case round =>
      obtain ⟨k, hk, rfl, HA, q, rfl⟩ := hrel
      by_cases hlt : k < n
      · obtain ⟨b', off', ra, rc, L, l, hbb, -, hll, hc, hI⟩ := HM.out.at k hlt
        injection hbb with hbb
        injection hbb with e1 e2
        subst e1 e2
        have hlen : l.length = L := hI.1
        have HI := Lib.hid hI
        have HLL := Lib.hid hll
        have HN := Lib.hid hlen
        have hki : (k : Int) < (n : Int) := by omega
        clear hI hll hlen
        by_cases hv : M.isVec l = true
        · have HV := Lib.hid hv
          have HC : ∀ w : World, Ints .i64 w ra L l → Calls Try.prog 39 #[.slice ra L rc] w fun e w' => e = .returned (.bool true) ∧ w = w' := by
            intro w hI
            refine (sVector _ _ _ l _ hI).mono ?_
            rintro e w' ⟨rfl, rfl⟩
            exact ⟨by rw [HV.out], rfl⟩
          clear hv
          by_cases hLL : L = L0
          · subst hLL
            go_wp2
            go_quiet ((go_at_call 39; exact q_more_s (HC _ HI.out)))
            go_wp2
            go_roundw
            case rel =>
              refine ⟨k + 1, by omega, by go_num, fun i hi => ?_, _, rfl⟩
              by_cases e : i = k
              · subst e; rw [← HLL.out]; exact M.okR_y HV.out (by rw [HN.out, HW.out])
              · exact HA.out i (by omega)
            case measure => simp [intOf]; omega
          · have HLL0 := Lib.hid hLL
            have hne : (L == L0) = false := by simpa using hLL
            have hne2 : (L != L0) = true := by simpa using hLL
            go_wp2
            go_quiet ((go_at_call 39; exact q_more_s (HC _ HI.out)))
            go_wp2
            go_ret
            exact ⟨retB (M.isMat_bad k (by have := HL.out; omega) (by rw [← HLL.out]; exact M.okR_n (by rw [HN.out, ← HW.out]; exact HLL0.out))).symm, _, World.drewN_drewN _ _ _⟩
        · simp only [Bool.not_eq_true] at hv
          have HV := Lib.hid hv
          have HC : ∀ w : World, Ints .i64 w ra L l → Calls Try.prog 39 #[.slice ra L rc] w fun e w' => e = .returned (.bool false) ∧ w = w' := by
            intro w hI
            refine (sVector _ _ _ l _ hI).mono ?_
            rintro e w' ⟨rfl, rfl⟩
            exact ⟨by rw [HV.out], rfl⟩
          clear hv
          go_wp2
          go_quiet ((go_at_call 39; exact q_more_s (HC _ HI.out)))
          go_wp2
          go_ret
          exact ⟨retB (M.isMat_bad k (by have := HL.out; omega) (by rw [← HLL.out]; exact M.okR_v HV.out)).symm, _, World.drewN_drewN _ _ _⟩
      · have hkn : k = n := by omega
        subst hkn
        go_wp2
        go_ret
        exact ⟨retB (M.isMat_good (by have := HL.out; omega) (by have := HL.out; omega) (by have := HL.out; rw [this]; exact HA.out)).symm, _, rfl⟩
  · by_cases h0 : n = 0
    · subst h0
      go_enter Try.func78, Try.ntmps78
      go_wp2
      go_ret
      exact ⟨retB (M.isMat_no (by have := HL.out; omega)).symm, 0, rfl⟩
    · have h1 : 10 < n := by omega
      go_enter Try.func78, Try.ntmps78
      go_wp2
      go_ret
      exact ⟨retB (M.isMat_no (by have := HL.out; omega)).symm, 0, rfl⟩

theorem isMatrix_b (a : Option Addr) (n cap : Nat) (R : List (List Int)) (w : World) (b : Bool) (hb : M.isMat R = b) (h : Mat w a n R) :
    Calls Try.prog 80 #[.slice a n cap] w fun e w' => e = .returned (.bool b) ∧ w = w' := by
  subst hb
  exact isMatrix _ _ _ _ _ h
theorem sIsMatrix_b (a : Option Addr) (n cap : Nat) (R : List (List Int)) (w : World) (b : Bool) (hb : M.isMat R = b) (h : Mat w a n R) :
    Calls Try.prog 78 #[.slice a n cap] w fun e w' => e = .returned (.bool b) ∧ ∃ q, w' = w.drewN q := by
  subst hb
  exact sIsMatrix _ _ _ _ _ h
theorem sIsMatrixB (a : Option Addr) (n cap : Nat) (R : List (List Int)) (w : World) (h : Mat w a n R) :
    Calls Try.prog 78 #[.slice a n cap] w fun e w' => e = .returned (.bool (M.isMat R)) ∧ Below w.heap.size w w' := by
  refine (sIsMatrix _ _ _ _ _ h).mono ?_
  rintro e w' ⟨rfl, q, rfl⟩
  exact ⟨rfl, b_draws _ _⟩
theorem sIsMatrixB_b (a : Option Addr) (n cap : Nat) (R : List (List Int)) (w : World) (b : Bool) (hb : M.isMat R = b) (h : Mat w a n R) :
    Calls Try.prog 78 #[.slice a n cap] w fun e w' => e = .returned (.bool b) ∧ Below w.heap.size w w' := by
  subst hb
  exact sIsMatrixB _ _ _ _ _ h
end Go.Proofs.Ythonlfjjgmmnpaa.V
