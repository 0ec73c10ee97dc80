/- Plain facts: what the closures of chapter 3 return. -/
import Derived.Test.YtfdckijililomaaMatP
namespace Go.Proofs.Ytfdckijililomaa
namespace M
def plusM (R : List (List Int)) (n : Nat) : List (List Int) := mk n n (cfw (ent R) n)
def starF (A : Nat → Nat → Int) (n i j : Nat) : Int := if i = j then 0 else cfw A n i j
def starM (R : List (List Int)) (n : Nat) : List (List Int) := mk n n (starF (ent R) n)
def plusL (R : List (List Int)) (n : Nat) : List (List Int) × Bool := if noPos (ent R) n then (plusM R n, true) else ([], false)
def starL (R : List (List Int)) (n : Nat) : List (List Int) × Bool := if noPos (ent R) n then (starM R n, true) else ([], false)
def plusRes (R : List (List Int)) : List (List Int) × Int := if sqB R then (if noPos (ent R) R.length then (if isMat (plusM R R.length) then (plusM R R.length, 0) else ([], 3)) else ([], 5)) else ([], 1)
def starRes (R : List (List Int)) : List (List Int) × Int := if sqB R then (if noPos (ent R) R.length then (if isMat (starM R R.length) then (starM R R.length, 0) else ([], 3)) else ([], 5)) else ([], 1)
def fixRes (R : List (List Int)) (l : List Int) : List Int × Int := if sqB R && isVec l then (if R.length = l.length then (if noPos (ent R) R.length then (if isVec (applyM (starM R R.length) l) then (applyM (starM R R.length) l, 0) else ([], 3)) else ([], 5)) else ([], 5)) else ([], 1)
theorem plusRes_ok (R : List (List Int)) : okM (plusRes R).1 := by
  unfold plusRes
  split
  · split
    · split
      · next h => exact .inr h
      · exact .inl rfl
    · exact .inl rfl
  · exact .inl rfl
theorem starRes_ok (R : List (List Int)) : okM (starRes R).1 := by
  unfold starRes
  split
  · split
    · split
      · next h => exact .inr h
      · exact .inl rfl
    · exact .inl rfl
  · exact .inl rfl
theorem fixRes_len (R : List (List Int)) (l : List Int) : (fixRes R l).1.length ≤ 10 := by
  unfold fixRes
  split
  · split
    · split
      · split
        · next h => exact (isVec_t h).2.1
        · simp
      · simp
    · simp
  · simp
/-- The matrix within a round: the entries before i, j are done. -/
def midF (A : Nat → Nat → Int) (k i j s t : Nat) : Int := if s < i ∨ (s = i ∧ t < j) then cfw A (k + 1) s t else cfw A k s t
/-- The paths with at most so many arcs, as a matrix. -/
def bmM (R : List (List Int)) (n t : Nat) : List (List Int) := mk n n (cbm (ent R) n t)
section
variable {A : Nat → Nat → Int} {n : Nat} (hn : n ≤ 10) (hA : ∀ i j, i < n → j < n → Sm 1000001000000 (A i j))
include hn hA
theorem mid_col {k i j s : Nat} (hk : k < n) (hd : ∀ m, m < k → cfw A m m m ≤ 0) (h : cfw A k k k ≤ 0) (hs : s < n) : midF A k i j s k = cfw A k s k := by
  unfold midF
  split
  · exact cfw_col hn hA hk hd h hs
  · rfl
theorem mid_row {k i j t : Nat} (hk : k < n) (hd : ∀ m, m < k → cfw A m m m ≤ 0) (h : cfw A k k k ≤ 0) (ht : t < n) : midF A k i j k t = cfw A k k t := by
  unfold midF
  split
  · exact cfw_row hn hA hk hd h ht
  · rfl
theorem star_sm (hp : noPos A n = true) {i j : Nat} (hi : i < n) (hj : j < n) : Sm 11000011000000 (starF A n i j) := by
  unfold starF
  split
  · right; omega
  · exact cfw_big hn hA (Nat.le_refl _) (fun _ hu => noPos_t hp hu) i j hi hj
end
theorem mid_next (A : Nat → Nat → Int) (n k i j : Nat) (hi : i < n) :
    (mk n n (midF A k i j)).set i (((mk n n (midF A k i j)).getD i []).set j (cfw A (k + 1) i j)) = mk n n (midF A k i (j + 1)) := by
  rw [mk_set _ _ _ _ _ _ hi]
  refine mk_congr fun s _ t _ => ?_
  unfold midF
  by_cases e : s = i
  · subst e
    rw [if_pos rfl]
    by_cases e2 : t = j
    · subst e2; rw [if_pos rfl, if_pos (by omega)]
    · rw [if_neg e2]
      by_cases e3 : t < j
      · rw [if_pos (by omega), if_pos (by omega)]
      · rw [if_neg (by omega), if_neg (by omega)]
  · rw [if_neg e]
    by_cases e3 : s < i
    · rw [if_pos (by omega), if_pos (by omega)]
    · rw [if_neg (by omega), if_neg (by omega)]
theorem mid_row_end (A : Nat → Nat → Int) (n k i : Nat) : mk n n (midF A k i n) = mk n n (midF A k (i + 1) 0) :=
  mk_congr fun s _ t ht => by
    unfold midF
    by_cases e : s < i ∨ (s = i ∧ t < n)
    · rw [if_pos e, if_pos (by omega)]
    · rw [if_neg e, if_neg (by omega)]
theorem mid_zero (A : Nat → Nat → Int) (n k : Nat) : mk n n (midF A k 0 0) = mk n n (cfw A k) :=
  mk_congr fun s _ t _ => by unfold midF; rw [if_neg (by omega)]
theorem mid_end (A : Nat → Nat → Int) (n k : Nat) : mk n n (midF A k n 0) = mk n n (cfw A (k + 1)) :=
  mk_congr fun s hs t _ => by unfold midF; rw [if_pos (by omega)]
/-- One step of the model: the unit plus the matrix times what was. -/
theorem bm_step (R : List (List Int)) (n t : Nat) :
    mk n n (fun i j => max (ent (unitM n) i j) (ent (mk n n (fun i j => dot R (bmM R n t) i j n)) i j)) = bmM R n (t + 1) :=
  mk_congr fun i hi j hj => by
    unfold unitM
    rw [ent_mk _ _ _ _ _ hi hj, ent_mk _ _ _ _ _ hi hj]
    show max (unit i j) _ = max (unit i j) _
    congr 1
    unfold dot
    exact sumN_congr fun u hu => by
      unfold bmM
      rw [ent_mk _ _ _ _ _ hu hj]
theorem bm_zero (R : List (List Int)) (n : Nat) : unitM n = bmM R n 0 := rfl
theorem mk_inj {n : Nat} {f g : Nat → Nat → Int} (h : mk n n f = mk n n g) {i j : Nat} (hi : i < n) (hj : j < n) : f i j = g i j := by
  have := congrArg (fun R => ent R i j) h
  simp only [ent_mk _ _ _ _ _ hi hj] at this
  exact this
theorem bm_big {R : List (List Int)} {n : Nat} (hA : ∀ i j, i < n → j < n → Sm 1000001000000 (ent R i j)) {t : Nat} (ht : t ≤ 11) {i j : Nat} (hi : i < n) (hj : j < n) : Big (ent (bmM R n t) i j) := by
  unfold bmM
  rw [ent_mk _ _ _ _ _ hi hj]
  exact big_sm (cbm_sm hA t i j hi hj) (by omega)
section
variable {R : List (List Int)} {n : Nat} (hn : n ≤ 10) (hA : ∀ i j, i < n → j < n → Sm 1000001000000 (ent R i j))
include hn hA
/-- The model's test is the program's. -/
theorem bm_same : decide (bmM R n (n + 1) = bmM R n n) = noPos (ent R) n := by
  cases h : noPos (ent R) n with
  | true =>
    rw [decide_eq_true]
    exact mk_congr fun i hi j hj => clo_same hn hA h hi hj
  | false =>
    obtain ⟨i, j, hi, hj, hne⟩ := clo_pos hn hA h
    rw [decide_eq_false]
    exact fun e => hne (mk_inj e hi hj)
theorem bm_star (h : noPos (ent R) n = true) : bmM R n n = starM R n :=
  mk_congr fun i hi j hj => clo_star hn hA h hi hj
theorem bm_plus (h : noPos (ent R) n = true) : mk n n (fun i j => dot R (bmM R n n) i j n) = plusM R n :=
  mk_congr fun i hi j hj => by
    rw [← clo_plus hn hA h hi hj]
    unfold dot
    exact sumN_congr fun u hu => by
      unfold bmM
      rw [ent_mk _ _ _ _ _ hu hj]
theorem star_big (hp : noPos (ent R) n = true) {i j : Nat} (hi : i < n) (hj : j < n) : Big (ent (starM R n) i j) := by
  unfold starM
  rw [ent_mk _ _ _ _ _ hi hj]
  exact big_sm (star_sm hn hA hp hi hj) (by omega)
end
end M
end Go.Proofs.Ytfdckijililomaa
