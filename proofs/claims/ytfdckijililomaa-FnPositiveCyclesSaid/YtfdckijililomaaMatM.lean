/- Plain facts on matrices as lists of rows; no Go in sight. -/
import Derived.Test.YtfdckijililomaaMath1
import Derived.Test.YtfdckijililomaaList
namespace Go.Proofs.Ytfdckijililomaa
namespace M

def isVec (l : List Int) : Bool := decide (1 ≤ l.length) && decide (l.length ≤ 10) && l.all isVal
def wid (R : List (List Int)) : Nat := (R.getD 0 []).length
def isMat (R : List (List Int)) : Bool := decide (1 ≤ R.length) && decide (R.length ≤ 10) && R.all (fun r => isVec r && decide (r.length = wid R))
def row (R : List (List Int)) (i : Nat) : List Int := R.getD i []
def ent (R : List (List Int)) (i j : Nat) : Int := (R.getD i []).getD j 0
/-- The matrix with m rows and n columns and the entries f. -/
def mk (m n : Nat) (f : Nat → Nat → Int) : List (List Int) := (List.range m).map fun i => (List.range n).map fun j => f i j
def botM (m n : Nat) : List (List Int) := mk m n fun _ _ => -1000000000000000
def unitM (n : Nat) : List (List Int) := mk n n fun i j => if i = j then 0 else -1000000000000000
def addM (a b : List (List Int)) : List (List Int) := mk a.length (wid a) fun i j => max (ent a i j) (ent b i j)
def sumN : Nat → (Nat → Int) → Int
  | 0, _ => -1000000000000000
  | k + 1, f => max (sumN k f) (f k)
def dot (a b : List (List Int)) (i j : Nat) (k : Nat) : Int := sumN k fun t => times (ent a i t) (ent b t j)
def mulM (a b : List (List Int)) : List (List Int) := mk a.length (wid b) fun i j => dot a b i j b.length
def transM (a : List (List Int)) : List (List Int) := mk (wid a) a.length fun i j => ent a j i
def dotV (a : List (List Int)) (x : List Int) (i k : Nat) : Int := sumN k fun t => times (ent a i t) (x.getD t 0)
def applyM (a : List (List Int)) (x : List Int) : List Int := (List.range a.length).map fun i => dotV a x i x.length
def powN (a : List (List Int)) : Nat → List (List Int) × Bool
  | 0 => (unitM a.length, true)
  | k + 1 => if (powN a k).2 then (mulM (powN a k).1 a, isMat (mulM (powN a k).1 a)) else ([], false)

def unitRes (n : Int) : List (List Int) × Int := if 1 ≤ n ∧ n ≤ 10 then (unitM n.toNat, 0) else ([], 2)
def botRes (m n : Int) : List (List Int) × Int := if (1 ≤ m ∧ m ≤ 10) ∧ (1 ≤ n ∧ n ≤ 10) then (botM m.toNat n.toNat, 0) else ([], 2)
def addRes (a b : List (List Int)) : List (List Int) × Int := if isMat a && isMat b then (if a.length = b.length ∧ wid a = wid b then (addM a b, 0) else ([], 5)) else ([], 1)
def mulRes (a b : List (List Int)) : List (List Int) × Int := if isMat a && isMat b then (if wid a = b.length then (if isMat (mulM a b) then (mulM a b, 0) else ([], 3)) else ([], 5)) else ([], 1)
def pwRes (a : List (List Int)) (k : Nat) : List (List Int) × Int := if (powN a k).2 then ((powN a k).1, 0) else ([], 3)
def powRes (a : List (List Int)) (n : Int) : List (List Int) × Int := if isMat a then (if 0 ≤ n ∧ n ≤ 100 then (if a.length = wid a then (if (powN a n.toNat).2 then ((powN a n.toNat).1, 0) else ([], 3)) else ([], 5)) else ([], 2)) else ([], 1)
def transRes (a : List (List Int)) : List (List Int) × Int := if isMat a then (transM a, 0) else ([], 1)
def vecRes (a : List (List Int)) (x : List Int) : List Int × Int := if isMat a && isVec x then (if wid a = x.length then (if isVec (applyM a x) then (applyM a x, 0) else ([], 3)) else ([], 5)) else ([], 1)

@[simp] theorem mk_length (m n : Nat) (f : Nat → Nat → Int) : (mk m n f).length = m := by simp [mk]
theorem mk_row (m n : Nat) (f : Nat → Nat → Int) (i : Nat) (h : i < m) : (mk m n f).getD i [] = (List.range n).map fun j => f i j := by
  simp [mk, h]
theorem mk_rowlen (m n : Nat) (f : Nat → Nat → Int) (i : Nat) (h : i < m) : ((mk m n f).getD i []).length = n := by
  rw [mk_row m n f i h]; simp
theorem mk_ent (m n : Nat) (f : Nat → Nat → Int) (i j : Nat) (h : i < m) (k : j < n) : ((mk m n f).getD i []).getD j 0 = f i j := by
  rw [mk_row m n f i h]; simp [k]
theorem ent_mk (m n : Nat) (f : Nat → Nat → Int) (i j : Nat) (h : i < m) (k : j < n) : ent (mk m n f) i j = f i j := mk_ent m n f i j h k
theorem mk_wid (m n : Nat) (f : Nat → Nat → Int) (h : 0 < m) : wid (mk m n f) = n := mk_rowlen m n f 0 h
theorem mk_congr {m n : Nat} {f g : Nat → Nat → Int} (h : ∀ i, i < m → ∀ j, j < n → f i j = g i j) : mk m n f = mk m n g := by
  unfold mk
  refine List.map_congr_left fun i hi => List.map_congr_left fun j hj => ?_
  exact h i (List.mem_range.1 hi) j (List.mem_range.1 hj)
theorem map_set (n : Nat) (f : Nat → Int) (j : Nat) (x : Int) : ((List.range n).map f).set j x = (List.range n).map fun t => if t = j then x else f t := by
  apply List.ext_getElem
  · simp
  · intro k h1 h2
    simp only [List.length_set, List.length_map, List.length_range] at h1
    rw [List.getElem_set]
    simp only [List.getElem_map, List.getElem_range]
    by_cases e : j = k
    · subst e; simp
    · rw [if_neg e, if_neg (by omega)]
theorem mk_set (m n : Nat) (f : Nat → Nat → Int) (i j : Nat) (x : Int) (h : i < m) :
    (mk m n f).set i (((mk m n f).getD i []).set j x) = mk m n fun s t => if s = i then (if t = j then x else f s t) else f s t := by
  rw [mk_row m n f i h, map_set]
  unfold mk
  apply List.ext_getElem
  · simp
  · intro k h1 h2
    simp only [List.length_set, List.length_map, List.length_range] at h1
    rw [List.getElem_set]
    simp only [List.getElem_map, List.getElem_range]
    by_cases e : i = k
    · subst e; simp
    · rw [if_neg e]
      have e' : ¬ k = i := by omega
      simp only [e', if_false]
theorem mk_snoc (m n : Nat) (f : Nat → Nat → Int) : mk (m + 1) n f = mk m n f ++ [(List.range n).map fun j => f m j] := by
  unfold mk; rw [List.range_succ]; simp
theorem range_snoc (n : Nat) (f : Nat → Int) : (List.range (n + 1)).map f = (List.range n).map f ++ [f n] := by
  rw [List.range_succ]; simp
theorem mk_self (R : List (List Int)) (n : Nat) (h : ∀ i, i < R.length → (R.getD i []).length = n) : mk R.length n (ent R) = R := by
  apply List.ext_getElem
  · simp
  · intro k h1 h2
    have hk := h k h2
    apply List.ext_getElem
    · simp [mk]
      simpa [h2] using hk.symm
    · intro j h3 h4
      simp only [mk, List.getElem_map, List.getElem_range]
      simp only [ent, List.getD_eq_getElem?_getD, List.getElem?_eq_getElem h2, Option.getD_some, List.getElem?_eq_getElem h4]

theorem isVec_t {l : List Int} (h : isVec l = true) : 1 ≤ l.length ∧ l.length ≤ 10 ∧ ∀ j, j < l.length → isVal (l.getD j 0) = true := by
  simp only [isVec, Bool.and_eq_true, decide_eq_true_eq] at h
  refine ⟨h.1.1, h.1.2, fun j hj => ?_⟩
  have := List.all_eq_true.1 h.2 (l[j]) (List.getElem_mem hj)
  simpa [hj] using this
theorem isVec_of {l : List Int} (h1 : 1 ≤ l.length) (h2 : l.length ≤ 10) (h : ∀ j, j < l.length → isVal (l.getD j 0) = true) : isVec l = true := by
  simp only [isVec, Bool.and_eq_true, decide_eq_true_eq]
  refine ⟨⟨h1, h2⟩, List.all_eq_true.2 fun x hx => ?_⟩
  obtain ⟨j, hj, rfl⟩ := List.mem_iff_getElem.1 hx
  have := h j hj
  simpa [hj] using this
theorem isVec_f {l : List Int} (h : ¬(1 ≤ l.length ∧ l.length ≤ 10)) : isVec l = false := by
  cases e : isVec l with
  | false => rfl
  | true => exact absurd ⟨(isVec_t e).1, (isVec_t e).2.1⟩ h
theorem isVec_all {l : List Int} (h1 : 1 ≤ l.length) (h2 : l.length ≤ 10) : isVec l = l.all isVal := by
  unfold isVec
  rw [decide_eq_true h1, decide_eq_true h2]
  rfl
theorem isMat_t {R : List (List Int)} (h : isMat R = true) : 1 ≤ R.length ∧ R.length ≤ 10 ∧ 1 ≤ wid R ∧ wid R ≤ 10 ∧ (∀ i, i < R.length → (R.getD i []).length = wid R) ∧ ∀ i, i < R.length → ∀ j, j < wid R → isVal (ent R i j) = true := by
  simp only [isMat, Bool.and_eq_true, decide_eq_true_eq] at h
  obtain ⟨⟨h1, h2⟩, h3⟩ := h
  have hr : ∀ i, i < R.length → isVec (R.getD i []) = true ∧ (R.getD i []).length = wid R := fun i hi => by
    have := List.all_eq_true.1 h3 (R[i]) (List.getElem_mem hi)
    simpa [hi] using this
  have h0 := hr 0 (by omega)
  have hv := isVec_t h0.1
  refine ⟨h1, h2, ?_, ?_, fun i hi => (hr i hi).2, fun i hi j hj => ?_⟩
  · rw [← h0.2]; exact hv.1
  · rw [← h0.2]; exact hv.2.1
  · exact (isVec_t (hr i hi).1).2.2 j (by rw [(hr i hi).2]; exact hj)
theorem isMat_of {R : List (List Int)} (h1 : 1 ≤ R.length) (h2 : R.length ≤ 10) (h3 : 1 ≤ wid R) (h4 : wid R ≤ 10) (h5 : ∀ i, i < R.length → (R.getD i []).length = wid R) (h6 : ∀ i, i < R.length → ∀ j, j < wid R → isVal (ent R i j) = true) : isMat R = true := by
  simp only [isMat, Bool.and_eq_true, decide_eq_true_eq]
  refine ⟨⟨h1, h2⟩, List.all_eq_true.2 fun x hx => ?_⟩
  obtain ⟨i, hi, rfl⟩ := List.mem_iff_getElem.1 hx
  have hl := h5 i hi
  have he : R.getD i [] = R[i] := by simp [hi]
  rw [he] at hl
  simp only [Bool.and_eq_true, decide_eq_true_eq]
  refine ⟨isVec_of (by omega) (by omega) fun j hj => ?_, hl⟩
  have := h6 i hi j (by omega)
  unfold ent at this
  rw [he] at this
  exact this
theorem isMat_mk {m n : Nat} {f : Nat → Nat → Int} (m1 : 1 ≤ m) (m2 : m ≤ 10) (n1 : 1 ≤ n) (n2 : n ≤ 10) (h : ∀ i, i < m → ∀ j, j < n → isVal (f i j) = true) : isMat (mk m n f) = true := by
  have hw : wid (mk m n f) = n := mk_wid m n f (by omega)
  refine isMat_of (by simpa using m1) (by simpa using m2) (by omega) (by omega) (fun i hi => ?_) (fun i hi j hj => ?_)
  · rw [hw]; exact mk_rowlen m n f i (by simpa using hi)
  · rw [ent_mk m n f i j (by simpa using hi) (by omega)]; exact h i (by simpa using hi) j (by omega)

def okR (R : List (List Int)) (r : List Int) : Bool := isVec r && decide (r.length = wid R)
theorem isMat_no {R : List (List Int)} (h : ¬(1 ≤ R.length ∧ R.length ≤ 10)) : isMat R = false := by
  cases e : isMat R with
  | false => rfl
  | true => exact absurd ⟨(isMat_t e).1, (isMat_t e).2.1⟩ h
theorem isMat_bad {R : List (List Int)} (i : Nat) (hi : i < R.length) (h : okR R (R.getD i []) = false) : isMat R = false := by
  cases e : isMat R with
  | false => rfl
  | true =>
    simp only [isMat, Bool.and_eq_true] at e
    have := List.all_eq_true.1 e.2 (R[i]) (List.getElem_mem hi)
    have he : R.getD i [] = R[i] := by simp [hi]
    rw [he] at h
    unfold okR at h
    rw [h] at this
    cases this
theorem isMat_good {R : List (List Int)} (h1 : 1 ≤ R.length) (h2 : R.length ≤ 10) (h : ∀ i, i < R.length → okR R (R.getD i []) = true) : isMat R = true := by
  simp only [isMat, Bool.and_eq_true, decide_eq_true_eq]
  refine ⟨⟨h1, h2⟩, List.all_eq_true.2 fun x hx => ?_⟩
  obtain ⟨i, hi, rfl⟩ := List.mem_iff_getElem.1 hx
  have := h i hi
  have he : R.getD i [] = R[i] := by simp [hi]
  rw [he] at this
  exact this
theorem okR_n {R : List (List Int)} {r : List Int} (h : r.length ≠ wid R) : okR R r = false := by
  unfold okR; rw [decide_eq_false h, Bool.and_false]
theorem okR_v {R : List (List Int)} {r : List Int} (h : isVec r = false) : okR R r = false := by
  unfold okR; rw [h, Bool.false_and]
theorem okR_y {R : List (List Int)} {r : List Int} (h : isVec r = true) (h2 : r.length = wid R) : okR R r = true := by
  unfold okR; rw [h, decide_eq_true h2]; rfl
/-- Every entry is a value that products may leave: at least Bottom. -/
theorem times_ge {a b : Int} (ha : isVal a = true) (hb : isVal b = true) : -1000000000000000 ≤ times a b ∧ times a b ≤ 2000000 := by
  have h1 := isVal_t ha
  have h2 := isVal_t hb
  unfold times
  split <;> omega
theorem sumN_bd {k : Nat} {f : Nat → Int} (h : ∀ t, t < k → -1000000000000000 ≤ f t ∧ f t ≤ 2000000) : -1000000000000000 ≤ sumN k f ∧ sumN k f ≤ 2000000 := by
  induction k with
  | zero => exact ⟨by unfold sumN; omega, by unfold sumN; omega⟩
  | succ k ih =>
    have h1 := ih fun t ht => h t (by omega)
    have h2 := h k (by omega)
    unfold sumN
    omega
theorem sumN_one {f : Nat → Int} (h : -1000000000000000 ≤ f 0) : sumN 1 f = f 0 := by
  unfold sumN sumN; omega
theorem sumN_congr {k : Nat} {f g : Nat → Int} (h : ∀ t, t < k → f t = g t) : sumN k f = sumN k g := by
  induction k with
  | zero => rfl
  | succ k ih => unfold sumN; rw [ih fun t ht => h t (by omega), h k (by omega)]
/-- How many entries stand in the rows before row i. -/
def pre (R : List (List Int)) (i : Nat) : Nat := ((R.take i).map List.length).sum
def iota (k : Int) (n : Nat) : List Int := (List.range n).map fun (j : Nat) => k + j
/-- The first i rows marked with the numbers from k on, the others as they were. -/
def marked (k : Int) (R : List (List Int)) (i : Nat) : List (List Int) := (List.range R.length).map fun s => if s < i then iota (k + pre R s) (R.getD s []).length else R.getD s []
def marks (k : Int) (R : List (List Int)) : List (List Int) := marked k R R.length
theorem pre_succ (R : List (List Int)) (i : Nat) (h : i < R.length) : pre R (i + 1) = pre R i + (R.getD i []).length := by
  unfold pre
  rw [List.take_succ_eq_append_getElem h, List.map_append, List.sum_append]
  simp [h]
theorem pre_zero (R : List (List Int)) : pre R 0 = 0 := by simp [pre]
theorem pre_mono (R : List (List Int)) {i j : Nat} (h : i ≤ j) : pre R i ≤ pre R j := by
  induction j with
  | zero => have : i = 0 := by omega
            subst this; exact Nat.le_refl _
  | succ j ih =>
    by_cases e : i = j + 1
    · subst e; exact Nat.le_refl _
    · have := ih (by omega)
      by_cases hj : j < R.length
      · rw [pre_succ R j hj]; omega
      · have e2 : pre R (j + 1) = pre R j := by unfold pre; rw [List.take_of_length_le (by omega), List.take_of_length_le (by omega)]
        omega
theorem len_le_pre (R : List (List Int)) (i : Nat) (h : i < R.length) : (R.getD i []).length ≤ pre R R.length := by
  have h1 := pre_succ R i h
  have h2 := pre_mono R (show i + 1 ≤ R.length by omega)
  omega
@[simp] theorem iota_length (k : Int) (n : Nat) : (iota k n).length = n := by simp [iota]
theorem iota_getD (k : Int) (n j : Nat) (h : j < n) : (iota k n).getD j 0 = k + j := by simp [iota, h]
@[simp] theorem marked_length (k : Int) (R : List (List Int)) (i : Nat) : (marked k R i).length = R.length := by simp [marked]
theorem marked_at (k : Int) (R : List (List Int)) (i s : Nat) (h : s < R.length) : (marked k R i).getD s [] = if s < i then iota (k + pre R s) (R.getD s []).length else R.getD s [] := by
  simp [marked, h]
theorem marked_rowlen (k : Int) (R : List (List Int)) (i s : Nat) (h : s < R.length) : ((marked k R i).getD s []).length = (R.getD s []).length := by
  rw [marked_at k R i s h]
  split
  · simp
  · rfl
theorem marked_zero (k : Int) (R : List (List Int)) : marked k R 0 = R := by
  apply List.ext_getElem
  · simp
  · intro j h1 h2
    simp [marked, h2]
theorem marked_set (k : Int) (R : List (List Int)) (i : Nat) (h : i < R.length) : (marked k R i).set i (iota (k + pre R i) (R.getD i []).length) = marked k R (i + 1) := by
  apply List.ext_getElem
  · simp
  · intro j h1 h2
    simp only [marked_length] at h2
    rw [List.getElem_set]
    simp only [marked, List.getElem_map, List.getElem_range]
    by_cases e : i = j
    · subst e; rw [if_pos rfl, if_pos (by omega)]
    · rw [if_neg e]
      by_cases e2 : j < i
      · rw [if_pos e2, if_pos (by omega)]
      · rw [if_neg e2, if_neg (by omega)]
theorem pre_const (R : List (List Int)) (n : Nat) (h : ∀ i, i < R.length → (R.getD i []).length ≤ n) : ∀ i, i ≤ R.length → pre R i ≤ i * n := by
  intro i
  induction i with
  | zero => intro _; simp [pre]
  | succ i ih =>
    intro hi
    rw [pre_succ R i (by omega), Nat.add_mul]
    have := ih (by omega)
    have := h i (by omega)
    omega
theorem pre_mat {R : List (List Int)} (h : isMat R = true) : pre R R.length ≤ 100 := by
  obtain ⟨h1, h2, h3, h4, h5, h6⟩ := isMat_t h
  have := pre_const R 10 (fun i hi => by rw [h5 i hi]; exact h4) R.length (Nat.le_refl _)
  omega
/-- Nothing or a matrix. -/
def okM (R : List (List Int)) : Prop := R = [] ∨ isMat R = true
theorem okM_pre {R : List (List Int)} (h : okM R) : pre R R.length ≤ 100 := by
  rcases h with rfl | h
  · simp [pre]
  · exact pre_mat h
theorem okM_len {R : List (List Int)} (h : okM R) : R.length ≤ 10 := by
  rcases h with rfl | h
  · simp
  · exact (isMat_t h).2.1
theorem botM_ok {m n : Nat} (m1 : 1 ≤ m) (m2 : m ≤ 10) (n1 : 1 ≤ n) (n2 : n ≤ 10) : isMat (botM m n) = true := isMat_mk m1 m2 n1 n2 fun _ _ _ _ => bot_val
theorem unitM_ok {n : Nat} (n1 : 1 ≤ n) (n2 : n ≤ 10) : isMat (unitM n) = true := isMat_mk n1 n2 n1 n2 fun i _ j _ => by
  split
  · decide
  · exact bot_val
theorem unitRes_ok (n : Int) : okM (unitRes n).1 := by
  unfold unitRes
  split
  · next h => exact .inr (unitM_ok (by omega) (by omega))
  · exact .inl rfl
theorem botRes_ok (m n : Int) : okM (botRes m n).1 := by
  unfold botRes
  split
  · next h => exact .inr (botM_ok (by omega) (by omega) (by omega) (by omega))
  · exact .inl rfl
theorem addM_ok {a b : List (List Int)} (ha : isMat a = true) (hb : isMat b = true) (h1 : a.length = b.length) (h2 : wid a = wid b) : isMat (addM a b) = true := by
  obtain ⟨a1, a2, a3, a4, a5, a6⟩ := isMat_t ha
  obtain ⟨b1, b2, b3, b4, b5, b6⟩ := isMat_t hb
  refine isMat_mk a1 a2 a3 a4 fun i hi j hj => ?_
  have e1 := a6 i hi j hj
  have e2 := b6 i (by omega) j (by omega)
  rcases Int.le_total (ent a i j) (ent b i j) with h | h
  · rw [Int.max_eq_right h]; exact e2
  · rw [Int.max_eq_left h]; exact e1
theorem addRes_ok (a b : List (List Int)) : okM (addRes a b).1 := by
  unfold addRes
  split
  · next h =>
    rw [Bool.and_eq_true] at h
    split
    · next h2 => exact .inr (addM_ok h.1 h.2 h2.1 h2.2)
    · exact .inl rfl
  · exact .inl rfl
theorem mulRes_ok (a b : List (List Int)) : okM (mulRes a b).1 := by
  unfold mulRes
  split
  · split
    · split
      · next h => exact .inr h
      · exact .inl rfl
    · exact .inl rfl
  · exact .inl rfl
theorem powN_ok {a : List (List Int)} (h1 : 1 ≤ a.length) (h2 : a.length ≤ 10) (n : Nat) (h : (powN a n).2 = true) : isMat (powN a n).1 = true := by
  cases n with
  | zero => exact unitM_ok h1 h2
  | succ n =>
    unfold powN at h ⊢
    by_cases e : (powN a n).2 = true
    · rw [if_pos e] at h ⊢; exact h
    · rw [if_neg e] at h; cases h
theorem powRes_ok (a : List (List Int)) (n : Int) : okM (powRes a n).1 := by
  unfold powRes
  split
  · next h =>
    split
    · split
      · split
        · next h2 => exact .inr (powN_ok (isMat_t h).1 (isMat_t h).2.1 _ h2)
        · exact .inl rfl
      · exact .inl rfl
    · exact .inl rfl
  · exact .inl rfl
theorem transM_ok {a : List (List Int)} (ha : isMat a = true) : isMat (transM a) = true := by
  obtain ⟨a1, a2, a3, a4, a5, a6⟩ := isMat_t ha
  exact isMat_mk a3 a4 a1 a2 fun i hi j hj => a6 j hj i hi
theorem transRes_ok (a : List (List Int)) : okM (transRes a).1 := by
  unfold transRes
  split
  · next h => exact .inr (transM_ok h)
  · exact .inl rfl
/-- Nothing or a vector. -/
theorem vecRes_len (a : List (List Int)) (x : List Int) : (vecRes a x).1.length ≤ 10 := by
  unfold vecRes
  split
  · split
    · split
      · next h => exact (isVec_t h).2.1
      · simp
    · simp
  · simp
/-- The first k rows of m are filled with f, the others are empty. -/
def part (m n : Nat) (f : Nat → Nat → Int) (k : Nat) : List (List Int) := (List.range m).map fun s => if s < k then (List.range n).map (f s) else []
/-- .. and of row k the first t entries are; the others are 0. -/
def part2 (m n : Nat) (f : Nat → Nat → Int) (k t : Nat) : List (List Int) := (List.range m).map fun s => if s < k then (List.range n).map (f s) else if s = k then (List.range n).map (fun j => if j < t then f k j else 0) else []
@[simp] theorem part_length (m n : Nat) (f : Nat → Nat → Int) (k : Nat) : (part m n f k).length = m := by simp [part]
@[simp] theorem part2_length (m n : Nat) (f : Nat → Nat → Int) (k t : Nat) : (part2 m n f k t).length = m := by simp [part2]
theorem part_zero (m n : Nat) (f : Nat → Nat → Int) : part m n f 0 = List.replicate m [] := by
  unfold part
  apply List.ext_getElem
  · simp
  · intro i h1 h2; simp
theorem map_set_rows (m : Nat) (f : Nat → List Int) (k : Nat) (x : List Int) : ((List.range m).map f).set k x = (List.range m).map fun s => if s = k then x else f s := by
  apply List.ext_getElem
  · simp
  · intro j h1 h2
    simp only [List.length_set, List.length_map, List.length_range] at h1
    rw [List.getElem_set]
    simp only [List.getElem_map, List.getElem_range]
    by_cases e : k = j
    · subst e; simp
    · rw [if_neg e, if_neg (by omega)]
theorem part_set (m n : Nat) (f : Nat → Nat → Int) (k : Nat) : (part m n f k).set k ((List.range n).map fun _ => 0) = part2 m n f k 0 := by
  unfold part part2
  rw [map_set_rows]
  refine List.map_congr_left fun s _ => ?_
  by_cases e : s = k
  · subst e; rw [if_pos rfl, if_neg (by omega), if_pos rfl]; simp
  · rw [if_neg e]
    by_cases e2 : s < k
    · rw [if_pos e2, if_pos e2]
    · rw [if_neg e2, if_neg e2, if_neg e]
theorem part2_row (m n : Nat) (f : Nat → Nat → Int) (k t : Nat) (h : k < m) : (part2 m n f k t).getD k [] = (List.range n).map (fun j => if j < t then f k j else 0) := by
  simp [part2, h]
theorem part2_rowlen (m n : Nat) (f : Nat → Nat → Int) (k t : Nat) (h : k < m) : ((part2 m n f k t).getD k []).length = n := by
  rw [part2_row m n f k t h]; simp
theorem part2_set (m n : Nat) (f : Nat → Nat → Int) (k t : Nat) (h : k < m) : (part2 m n f k t).set k (((part2 m n f k t).getD k []).set t (f k t)) = part2 m n f k (t + 1) := by
  rw [part2_row m n f k t h, map_set]
  unfold part2
  rw [map_set_rows]
  refine List.map_congr_left fun s _ => ?_
  by_cases e : s = k
  · subst e
    rw [if_pos rfl, if_neg (by omega), if_pos rfl]
    refine List.map_congr_left fun j _ => ?_
    by_cases e2 : j = t
    · subst e2; rw [if_pos rfl, if_pos (by omega)]
    · rw [if_neg e2]
      by_cases e3 : j < t
      · rw [if_pos e3, if_pos (by omega)]
      · rw [if_neg e3, if_neg (by omega)]
  · rw [if_neg e]
    by_cases e2 : s < k
    · rw [if_pos e2, if_pos e2]
    · rw [if_neg e2, if_neg e2, if_neg e, if_neg e]
theorem part2_end (m n : Nat) (f : Nat → Nat → Int) (k : Nat) : part2 m n f k n = part m n f (k + 1) := by
  unfold part2 part
  refine List.map_congr_left fun s _ => ?_
  by_cases e : s < k
  · rw [if_pos e, if_pos (by omega)]
  · rw [if_neg e]
    by_cases e2 : s = k
    · subst e2
      rw [if_pos rfl, if_pos (by omega)]
      exact List.map_congr_left fun j hj => by rw [if_pos (List.mem_range.1 hj)]
    · rw [if_neg e2, if_neg (by omega)]
theorem part_end (m n : Nat) (f : Nat → Nat → Int) : part m n f m = mk m n f := by
  unfold part mk
  exact List.map_congr_left fun s hs => by rw [if_pos (List.mem_range.1 hs)]
theorem isMat_len {R : List (List Int)} (h : isMat R = true) {i : Nat} (hi : i < R.length) : (R.getD i []).length = wid R := (isMat_t h).2.2.2.2.1 i hi
theorem isMat_val {R : List (List Int)} (h : isMat R = true) {i j : Nat} (hi : i < R.length) (hj : j < wid R) : isVal ((R.getD i []).getD j 0) = true := (isMat_t h).2.2.2.2.2 i hi j hj
theorem powN_step {a : List (List Int)} {k : Nat} (h : (powN a k).2 = true) : powN a (k + 1) = (mulM (powN a k).1 a, isMat (mulM (powN a k).1 a)) := by
  show (if (powN a k).2 then _ else _) = _
  rw [if_pos h]
theorem powN_false {a : List (List Int)} {k m : Nat} (h : (powN a k).2 = false) (hm : k ≤ m) : (powN a m).2 = false := by
  induction m with
  | zero => have : k = 0 := by omega
            subst this; exact h
  | succ m ih =>
    by_cases e : k = m + 1
    · subst e; exact h
    · have := ih (by omega)
      show (if (powN a m).2 then _ else _ : List (List Int) × Bool).2 = false
      rw [this]; rfl
theorem powN_len {a : List (List Int)} {k : Nat} (h : (powN a k).2 = true) : (powN a k).1.length = a.length := by
  cases k with
  | zero => exact mk_length _ _ _
  | succ k =>
    have h2 : (powN a k).2 = true := by
      cases e : (powN a k).2 with
      | true => rfl
      | false => have := powN_false e (Nat.le_succ k); rw [this] at h; cases h
    rw [powN_step h2]
    have := powN_len h2
    show (mulM _ _).length = _
    unfold mulM
    rw [mk_length, this]
theorem powN_wid {a : List (List Int)} {k : Nat} (ha : 1 ≤ a.length) (hs : a.length = wid a) (h : (powN a k).2 = true) : wid (powN a k).1 = a.length := by
  cases k with
  | zero => exact mk_wid _ _ _ (by omega)
  | succ k =>
    have h2 : (powN a k).2 = true := by
      cases e : (powN a k).2 with
      | true => rfl
      | false => have := powN_false e (Nat.le_succ k); rw [this] at h; cases h
    rw [powN_step h2]
    show wid (mulM _ _) = _
    unfold mulM
    rw [mk_wid _ _ _ (by rw [powN_len h2]; omega), hs]
end M
end Go.Proofs.Ytfdckijililomaa
