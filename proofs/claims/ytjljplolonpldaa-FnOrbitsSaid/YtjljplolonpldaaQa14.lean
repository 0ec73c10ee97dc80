/- Texts laid together: Prp, Osp, Pwp, Gpw, Mat1, Mark. -/
import Derived.Test.YtjljplolonpldaaQa12
import Derived.Test.YtjljplolonpldaaQa13
import Derived.Test.YtjljplolonpldaaQa3
import Derived.Test.YtjljplolonpldaaQa5
import Derived.Test.YtjljplolonpldaaQa2
import Derived.Test.YtjljplolonpldaaRows
import Derived.Test.YtjljplolonpldaaQa1
import Derived.WalkKit
import Derived.ProofKit
import Derived.WalkSmall
import Derived.Deep.QuietTactic
import Derived.BigQuiet
import Derived.BigRegion
import Derived.Deep.Draws
import Derived.Lib.Hide
import Derived.OpenShut
import Derived.Deep.OwnRows
set_option linter.unusedSimpArgs false
set_option linter.unusedVariables false
set_option linter.unusedSectionVars false
namespace Go.Proofs.Ytjljplolonpldaa
namespace M
def prRes (R : List (List Int)) : Int × Int × Int × Int := if sqB R then fnd R (unitM R.length) else (0, 0, 0, 1)
theorem wid_unit {n : Nat} (h : 1 ≤ n) : wid (unitM n) = n := mk_wid _ _ _ (by omega)
end M
namespace V
set_option maxRecDepth 100000
open Go.RowKit
def QPost (r : Int × Int × Int × Int) (w : World) (e : Ending) (w' : World) : Prop :=
  e = .returned (.tuple #[.int .i64 r.1, .int .i64 r.2.1, .int .i64 r.2.2.1, .int .i64 r.2.2.2]) ∧ Below w.heap.size w w'
theorem serB_unit {w : World} {a : Option Addr} {n : Nat} {R : List (List Int)} (h : Mat w a n R) (hs : M.sqB R = true) : SerB w a n n R (M.unitM n) := by
  obtain ⟨hr, n1, n2, hsm⟩ := sq_parts7 h hs
  exact ⟨h, hr, n1, n2, hsm, by unfold M.unitM; simp, M.wid_unit n1, n1, n2⟩
theorem okTo_unit {R : List (List Int)} {n : Nat} (n1 : 1 ≤ n) (n2 : n ≤ 10) : M.okTo R (M.unitM n) 0 := fun j hj => by
  obtain rfl : j = 0 := by omega
  exact M.unitM_ok n1 n2
theorem unit_vals {n : Nat} (n1 : 1 ≤ n) (n2 : n ≤ 10) : ∀ i j, i < n → j < n → M.isVal (M.ent (M.unitM n) i j) = true := fun i j hi hj =>
  (M.isMat_t (M.unitM_ok n1 n2)).2.2.2.2.2 i (by unfold M.unitM; simpa using hi) j (by rw [M.wid_unit n1]; exact hj)
theorem unit_rect {n : Nat} : Rect (M.unitM n) n n := rect_mk _ _ _
theorem powersOf (a : Option Addr) (n cap : Nat) (R : List (List Int)) (w : World) (h : Mat w a n R) (n1 : 1 ≤ n) (n2 : n ≤ 10) :
    Calls Try.prog 81 #[.slice a n cap] w fun e w' => ∃ p, e = .returned (.pointer (some ⟨p, 0, none⟩)) ∧ IsSeq w w' p a n cap R (M.unitM n) 0 none := by
  go_enter Try.func81, Try.ntmps81
  go_wp2_with fail
  refine (unitOf n _ n1 n2).mono ?_
  rintro e w2 ⟨b2, c2, rfl, ho, hb⟩
  have HO2 := Lib.hid ho
  have HB2 := Lib.hid hb
  clear ho hb
  go_wp2_with fail
  refine (sequenceFrom w a n cap n R (M.unitM n) b2 c2 _ HB2.out HO2.out unit_rect n1 n2 n1 n2 (unit_vals n1 n2)).mono ?_
  rintro e w3 ⟨p, rfl, hs⟩
  have HS3 := Lib.hid hs
  clear hs
  go_wp2
  go_ret
  exact ⟨p, by simp, HS3.out⟩
end V
end Go.Proofs.Ytjljplolonpldaa

namespace Go.Proofs.Ytjljplolonpldaa.M
theorem inn_spec {ok : Nat → Bool} {rep : Nat → Nat → Bool} {gr : Nat → Nat → Int} {k : Nat} : ∀ n e,
    (∀ r, inn ok rep gr k n e = some r → r = (0, 0, 0, 3) ∨ ∃ e', e ≤ e' ∧ e' < e + n ∧ ok e' = true ∧ rep k e' = true ∧ r = ((k : Int), (e' : Int) - k, gr k e', 0)) ∧
    (inn ok rep gr k n e = none → ∀ e', e ≤ e' → e' < e + n → ok e' = true)
  | 0, e => ⟨fun r h => by simp [inn] at h, fun _ e' h1 h2 => by omega⟩
  | n + 1, e => by
    obtain ⟨i1, i2⟩ := inn_spec (ok := ok) (rep := rep) (gr := gr) (k := k) n (e + 1)
    by_cases h : ok e = true
    · by_cases h2 : rep k e = true
      · constructor
        · intro r hr
          simp [inn, h, h2] at hr
          exact .inr ⟨e, Nat.le_refl _, by omega, h, h2, hr.symm⟩
        · intro hn; simp [inn, h, h2] at hn
      · have e1 : inn ok rep gr k (n + 1) e = inn ok rep gr k n (e + 1) := by simp [inn, h, h2]
        rw [e1]
        constructor
        · intro r hr
          rcases i1 r hr with q | ⟨e', q1, q2, q3⟩
          · exact .inl q
          · exact .inr ⟨e', by omega, by omega, q3⟩
        · intro hn e' h3 h4
          by_cases q : e' = e
          · subst q; exact h
          · exact i2 hn e' (by omega) (by omega)
    · constructor
      · intro r hr
        simp [inn, h] at hr
        exact .inl hr.symm
      · intro hn; simp [inn, h] at hn
theorem out_spec {ok : Nat → Bool} {rep : Nat → Nat → Bool} {gr : Nat → Nat → Int} {s c g : Int} : ∀ m k, m + k = 100 → ok k = true → out ok rep gr m k = (s, c, g, 0) →
    ∃ i e : Nat, s = i ∧ c = (e : Int) - i ∧ i < e ∧ e ≤ 100 ∧ g = gr i e ∧ rep i e = true ∧ ok i = true ∧ ok e = true
  | 0, k, _, _, h => by simp [out] at h
  | m + 1, k, hm, hk, h => by
    have e1 : out ok rep gr (m + 1) k = (inn ok rep gr k (m + 1) (k + 1)).getD (out ok rep gr m (k + 1)) := rfl
    obtain ⟨i1, i2⟩ := inn_spec (ok := ok) (rep := rep) (gr := gr) (k := k) (m + 1) (k + 1)
    cases hi : inn ok rep gr k (m + 1) (k + 1) with
    | none =>
      rw [e1, hi] at h
      exact out_spec m (k + 1) (by omega) (i2 hi (k + 1) (Nat.le_refl _) (by omega)) h
    | some r =>
      rw [e1, hi] at h
      have h : r = (s, c, g, 0) := h
      rcases i1 r hi with q2 | ⟨e', q1, q2, q3, q4, q5⟩
      · rw [h] at q2; simp at q2
      · rw [h] at q5
        simp only [Prod.mk.injEq] at q5
        exact ⟨k, e', q5.1, q5.2.1, by omega, by omega, q5.2.2.1, q4, hk, q3⟩
theorem fnd_bd {R F : List (List Int)} (h0 : 0 < R.length) (hF : F.length = R.length) (hok : okQ R F 0 = true) {s c g : Int} (h : fnd R F = (s, c, g, 0)) : 1 ≤ c ∧ c ≤ 100 ∧ -2000000 ≤ g ∧ g ≤ 2000000 := by
  obtain ⟨i, e, rfl, rfl, h1, h2, rfl, h3, h4, h5⟩ := out_spec 100 0 rfl hok h
  have hl := sq7_len (R := R) (F := F) hF
  have hw := sq7_wid (R := R) (F := F) h0
  have hfl := flat_len (X := sq7 R F i) (Y := sq7 R F e) h4 h5 (by rw [hl, hl]) (by rw [hw, hw])
  have hn : nrm (sq7 R F i).flatten = nrm (sq7 R F e).flatten := of_decide_eq_true h3
  have hg := (nrm_gap hfl (flat_vals h4) (flat_vals h5) hn).1
  have hb := gapI_bd hfl (flat_vals h4) (flat_vals h5)
  rw [hg] at hb
  unfold grQ
  omega
end Go.Proofs.Ytjljplolonpldaa.M

namespace Go.Proofs.Ytjljplolonpldaa
namespace M
def peRo (n s c : Int) : Int := max (n - s) 0 / c
def peAt (n s c : Int) : Nat := (n - peRo n s c * c).toNat
def peVal (R : List (List Int)) (n i j s c g : Int) : Int := times (ent (sq7 R (unitM R.length) (peAt n s c)) i.toNat j.toNat) (peRo n s c * g)
def peRes (R : List (List Int)) (n i j : Int) : Int × Int :=
  if sqB R then
    if 0 ≤ n ∧ n ≤ 100000 ∧ nodesB R.length [i, j] = true then
      if (fnd R (unitM R.length)).2.2.2 = 0 then chk (peVal R n i j (fnd R (unitM R.length)).1 (fnd R (unitM R.length)).2.1 (fnd R (unitM R.length)).2.2.1)
      else (0, (fnd R (unitM R.length)).2.2.2)
    else (0, 2)
  else (0, 1)
theorem pe_small {n s c : Nat} (h : n ≤ s) : peRo n s c = 0 ∧ peAt n s c = n := by
  have h1 : max ((n : Int) - s) 0 = 0 := by omega
  have h2 : peRo n s c = 0 := by unfold peRo; rw [h1]; simp
  refine ⟨h2, ?_⟩
  unfold peAt
  rw [h2]
  omega
theorem pe_great {n s c : Nat} (h : s < n) : peRo n s c = ((n - s) / c : Nat) ∧ peAt n s c = s + (n - s) % c := by
  have h1 : max ((n : Int) - s) 0 = ((n - s : Nat) : Int) := by omega
  have h2 : peRo n s c = ((n - s) / c : Nat) := by unfold peRo; rw [h1]; simp
  refine ⟨h2, ?_⟩
  unfold peAt
  rw [h2]
  have h3 := Nat.div_add_mod (n - s) c
  have h4 : (n : Int) - (((n - s) / c : Nat) : Int) * (c : Int) = ((s + (n - s) % c : Nat) : Int) := by
    have h5 : (((n - s) / c : Nat) : Int) * (c : Int) = ((c * ((n - s) / c) : Nat) : Int) := by rw [Nat.mul_comm]; simp
    rw [h5]; omega
  rw [h4]; rfl
theorem pe_bd {n s c k : Nat} (hc : 1 ≤ c) (hk : s + c ≤ k) : peAt n s c ≤ k := by
  by_cases h : n ≤ s
  · rw [(pe_small h).2]; omega
  · rw [(pe_great (by omega)).2]
    have := Nat.mod_lt (n - s) (show 0 < c by omega)
    omega
theorem pe_ro {n s c : Nat} (hn : n ≤ 100000) : 0 ≤ peRo n s c ∧ peRo n s c ≤ 100000 := by
  by_cases h : n ≤ s
  · rw [(pe_small h).1]; omega
  · rw [(pe_great (by omega)).1]
    have := Nat.div_le_self (n - s) c
    generalize (n - s) / c = q at *
    omega
theorem pe_mul {r g : Int} (h1 : 0 ≤ r) (h2 : r ≤ 100000) (h3 : -2000000 ≤ g) (h4 : g ≤ 2000000) : -200000000000 ≤ r * g ∧ r * g ≤ 200000000000 := by
  constructor
  · have : r * (-2000000) ≤ r * g := Int.mul_le_mul_of_nonneg_left h3 h1
    omega
  · have : r * g ≤ r * 2000000 := Int.mul_le_mul_of_nonneg_left h4 h1
    omega
/-- An entry that is taken out of its pattern is put back by the height. -/
theorem pat_back {X : List (List Int)} (hm : isMat X = true) {i j : Nat} (hi : i < X.length) (hj : j < wid X) : times (times (ent X i j) (-(maxL X.flatten))) (maxL X.flatten) = ent X i j := by
  have hx := isVal_t (maxL_vals (flat_vals hm))
  have he := isVal_t ((isMat_t hm).2.2.2.2.2 i hi j hj)
  by_cases hB : maxL X.flatten = -1000000000000000
  · have hz : ent X i j = -1000000000000000 := by
      have hl := isMat_len hm hi
      have hmem : ent X i j ∈ X.flatten := by
        unfold ent
        refine List.mem_flatten.2 ⟨X.getD i [], ?_, ?_⟩
        · rw [List.getD_eq_getElem?_getD, List.getElem?_eq_getElem hi]; exact List.getElem_mem hi
        · have hjl : j < (X.getD i []).length := by rw [hl]; exact hj
          rw [List.getD_eq_getElem?_getD (l := X.getD i []), List.getElem?_eq_getElem hjl]; exact List.getElem_mem hjl
      obtain ⟨t, ht, e⟩ := List.mem_iff_getElem.1 hmem
      have := maxL_ge (x := X.flatten) (i := t) ht
      rw [List.getD_eq_getElem?_getD, List.getElem?_eq_getElem ht, Option.getD_some, e] at this
      omega
    rw [hz]
    simp [times]
  · unfold times
    split
    · rename_i h; rcases h with h | h
      · omega
      · omega
    · rename_i h
      have h' : ent X i j ≠ -1000000000000000 := fun e => h (.inl e)
      split <;> omega
theorem flat_at {L : Nat} : ∀ (X : List (List Int)) (i j : Nat), (∀ k, k < X.length → (X.getD k []).length = L) → i < X.length → j < L → X.flatten.getD (i * L + j) 0 = ent X i j
  | [], i, j, _, hi, _ => absurd hi (Nat.not_lt_zero i)
  | r :: X, 0, j, h, _, hj => by
    have hr : r.length = L := h 0 (by simp)
    have : j < r.length := by omega
    simp [ent, List.getD_eq_getElem?_getD, List.getElem?_append_left this]
  | r :: X, i + 1, j, h, hi, hj => by
    have hr : r.length = L := h 0 (by simp)
    have ih := flat_at X i j (fun k hk => by simpa using h (k + 1) (by simpa using hk)) (by simpa using hi) hj
    have e : (i + 1) * L + j = r.length + (i * L + j) := by rw [Nat.add_mul, hr]; omega
    rw [List.flatten_cons, e, List.getD_eq_getElem?_getD, List.getElem?_append_right (by omega), Nat.add_sub_cancel_left, ← List.getD_eq_getElem?_getD, ih]
    simp [ent]
/-! SteadyState. -/
def stRes (R : List (List Int)) (x : List Int) : List Int × Int :=
  if orbCode R x = 0 then
    if (fnd R (mk R.length 1 fun i _ => x.getD i 0)).2.2.2 = 0 then
      if isVec (nrm (orb R x (fnd R (mk R.length 1 fun i _ => x.getD i 0)).1.toNat)) then (nrm (orb R x (fnd R (mk R.length 1 fun i _ => x.getD i 0)).1.toNat), 0) else ([], 3)
    else ([], (fnd R (mk R.length 1 fun i _ => x.getD i 0)).2.2.2)
  else ([], orbCode R x)
theorem nrm_len (x : List Int) : (nrm x).length = x.length := shv_len _ _
/-- A list that is Bottom as a whole stays as it is. -/
theorem nrm_bot {x : List Int} (h : maxL x = -1000000000000000) (hv : Vals x) : nrm x = x := by
  unfold nrm
  rw [shv_is rfl]
  intro i hi
  have h1 := maxL_ge hi
  have h2 := isVal_t (hv i hi)
  have h3 : x.getD i 0 = -1000000000000000 := by omega
  rw [h3]; simp [times]
theorem stRes_len (R : List (List Int)) (x : List Int) : (stRes R x).1.length ≤ 10 := by
  unfold stRes
  split
  · split
    · split
      · rename_i h; exact (isVec_t h).2.1
      · simp
    · simp
  · simp
/-- A column of a pattern. -/
theorem pat_col {R : List (List Int)} {x : List Int} {k i : Nat} (hx : x.length = R.length) (hi : i < R.length) (h10 : R.length ≤ 10) :
    (patC (sq7 R (mk R.length 1 fun i _ => x.getD i 0) k) (maxL (sq7 R (mk R.length 1 fun i _ => x.getD i 0) k).flatten)).getD (i * 10) 0 = (nrm (orb R x k)).getD i 0 := by
  have h1 := sq7_col hx k
  have hl := orb_len hx k
  have hw : wid (mk R.length 1 fun i _ => (orb R x k).getD i 0) = 1 := mk_wid _ _ _ (by omega)
  have hL : (mk R.length 1 fun i _ => (orb R x k).getD i 0).length = R.length := by simp
  rw [orb_flat hx k, h1]
  have := patC_get (X := mk R.length 1 fun i _ => (orb R x k).getD i 0) (h := maxL (orb R x k)) (i := i) (j := 0) (by rw [hL]; exact hi) (by rw [hw]; omega) (by omega) (by omega)
  rw [Nat.add_zero] at this
  rw [this]
  unfold nrm
  rw [shv_get (by rw [hl]; exact hi)]
  congr 1
  exact ent_mk _ _ _ _ _ hi (by omega)
end M
end Go.Proofs.Ytjljplolonpldaa

namespace Go.Proofs.Ytjljplolonpldaa
namespace M
theorem times_sumS {k : Nat} {f : Nat → Int} {g : Int} (h : ∀ t, t < k → Sm 100000000 (f t)) (hg : -10000000 ≤ g ∧ g ≤ 10000000) : times (sumN k f) g = sumN k fun t => times (f t) g := by
  induction k with
  | zero => simp [sumN, times]
  | succ k ih =>
    have h1 := sm_sum (k := k) (f := f) (L := 100000000) (fun t ht => h t (by omega)) (by omega) (by omega)
    have h2 := h k (by omega)
    show times (max (sumN k f) (f k)) g = max (sumN k fun t => times (f t) g) (times (f k) g)
    rw [← ih fun t ht => h t (by omega)]
    unfold Sm at h1 h2
    unfold times
    split <;> split <;> split <;> omega
/-- The product with a shifted matrix is the shifted product. -/
theorem mul_shift {R X Y : List (List Int)} {g : Int} (hR : isMat R = true) (hX : isMat X = true) (hg : -10000000 ≤ g ∧ g ≤ 10000000) (h1 : wid R = X.length) (h2 : Y.length = X.length) (h3 : wid Y = wid X)
    (h : ∀ i, i < X.length → ∀ j, j < wid X → ent Y i j = times (ent X i j) g) : ∀ i, i < R.length → ∀ j, j < wid X → ent (mulM R Y) i j = times (ent (mulM R X) i j) g := by
  intro i hi j hj
  rw [ent_mul hi (by omega), ent_mul hi hj, h2]
  have sR : ∀ t, t < X.length → Sm 1000000 (ent R i t) := fun t ht => sm_val ((isMat_t hR).2.2.2.2.2 i hi t (by omega))
  have sX : ∀ t, t < X.length → Sm 1000000 (ent X t j) := fun t ht => sm_val ((isMat_t hX).2.2.2.2.2 t ht j hj)
  rw [times_sumS (fun t ht => by
    have e1 := sR t ht
    have e2 := sX t ht
    unfold Sm at *
    unfold times
    split <;> omega) hg]
  refine sumN_congr fun t ht => ?_
  rw [h t ht j hj]
  have e1 := sR t ht
  have e2 := sX t ht
  unfold Sm at *
  unfold times
  split <;> split <;> split <;> split <;> omega
theorem ent_pat {X Y : List (List Int)} (hx : isMat X = true) (hy : isMat Y = true) (h1 : X.length = Y.length) (h2 : wid X = wid Y) (h : nrm X.flatten = nrm Y.flatten) :
    ∀ i, i < X.length → ∀ j, j < wid X → ent Y i j = times (ent X i j) (maxL Y.flatten - maxL X.flatten) := by
  have hp := (nrm_pat hx hy h1 h2).2 h
  rw [patC_iff h1 h2 (isMat_t hx).2.1 (isMat_t hx).2.2.2.1] at hp
  have hfl := flat_len hx hy h1 h2
  obtain ⟨hg, hs⟩ := nrm_gap hfl (flat_vals hx) (flat_vals hy) h
  have hb := gapI_bd hfl (flat_vals hx) (flat_vals hy)
  rw [hg] at hb
  intro i hi j hj
  have e := hp i hi j hj
  have v1 := isVal_t ((isMat_t hx).2.2.2.2.2 i hi j hj)
  have v2 := isVal_t ((isMat_t hy).2.2.2.2.2 i (by omega) j (by omega))
  have m1 := isVal_t (maxL_vals (flat_vals hx))
  have m2 := isVal_t (maxL_vals (flat_vals hy))
  unfold times at e ⊢
  split at e <;> split at e <;> split <;> omega
theorem powN_sq {R : List (List Int)} (ha : isMat R = true) (hs : R.length = wid R) : ∀ n, (powN R n).2 = true → sq7 R (unitM R.length) n = (powN R n).1
  | 0, _ => rfl
  | n + 1, h => by
    have hn := powN_down (k := n) h (by omega)
    have h1 : (powN R 1).1 = R := by
      have h0 := powN_down (k := 1) h (by omega)
      have := powN_step (a := R) (k := 0) (powN_down h (by omega))
      rw [this]
      exact unit_mul ha
    show mulM R (sq7 R (unitM R.length) n) = _
    rw [powN_sq ha hs n hn]
    have := pow_add ha hs 1 n (by rw [Nat.add_comm]; exact h)
    rw [h1, Nat.add_comm] at this
    exact this
/-- Behind the first repeat the powers go on as shifted forms. -/
theorem sq_goes {R F : List (List Int)} {s c : Nat} {g : Int} (hR : isMat R = true) (hw : wid R = R.length) (hF : F.length = R.length) (hg : -10000000 ≤ g ∧ g ≤ 10000000)
    (h0 : ∀ i, i < R.length → ∀ j, j < wid F → ent (sq7 R F (s + c)) i j = times (ent (sq7 R F s) i j) g) :
    ∀ r, (∀ m, m ≤ s + r → okQ R F m = true) → ∀ i, i < R.length → ∀ j, j < wid F → ent (sq7 R F (s + r + c)) i j = times (ent (sq7 R F (s + r)) i j) g
  | 0, _ => h0
  | r + 1, hok => by
    have hl := sq7_len (R := R) (F := F) hF
    have hwd := sq7_wid (R := R) (F := F) (by have := (isMat_t hR).1; omega)
    have ih := sq_goes hR hw hF hg h0 r (fun m hm => hok m (by omega))
    intro i hi j hj
    have e1 : s + (r + 1) + c = (s + r + c) + 1 := by omega
    rw [e1]
    exact mul_shift (X := sq7 R F (s + r)) (Y := sq7 R F (s + r + c)) hR (hok (s + r) (by omega)) hg (by rw [hl, hw]) (by rw [hl, hl]) (by rw [hwd, hwd])
      (fun i hi j hj => ih i (by rw [hl] at hi; exact hi) j (by rw [hwd] at hj; exact hj)) i hi j (by rw [hwd]; exact hj)
theorem sq_rounds {R F : List (List Int)} {s c r n : Nat} {g : Int} (hR : isMat R = true) (hw : wid R = R.length) (hF : F.length = R.length) (hg : -2000000 ≤ g ∧ g ≤ 2000000)
    (h0 : ∀ i, i < R.length → ∀ j, j < wid F → ent (sq7 R F (s + c)) i j = times (ent (sq7 R F s) i j) g) (hok : ∀ m, m ≤ n → okQ R F m = true) (hn : n ≤ 1000) (hc : 1 ≤ c) :
    ∀ q, s + r + q * c ≤ n → ∀ i, i < R.length → ∀ j, j < wid F → ent (sq7 R F (s + r + q * c)) i j = times (ent (sq7 R F (s + r)) i j) ((q : Int) * g)
  | 0, hq => by
    intro i hi j hj
    have v := isVal_t ((isMat_t (hok (s + r) (by omega))).2.2.2.2.2 i (by rw [sq7_len hF]; exact hi) j (by rw [sq7_wid (by omega)]; exact hj))
    rw [Nat.zero_mul, Nat.add_zero]
    show _ = times _ ((0 : Int) * g)
    rw [Int.zero_mul]
    unfold times
    split <;> omega
  | q + 1, hq => by
    intro i hi j hj
    have e : s + r + (q + 1) * c = s + (r + q * c) + c := by rw [Nat.add_mul]; omega
    have hle : s + (r + q * c) ≤ n := by rw [e] at hq; omega
    have ih := sq_rounds (r := r) hR hw hF hg h0 hok hn hc q (by rw [← Nat.add_assoc] at hle; exact hle) i hi j hj
    rw [e, sq_goes hR hw hF ⟨by omega, by omega⟩ h0 (r + q * c) (fun m hm => hok m (by omega)) i hi j hj, ← Nat.add_assoc, ih]
    have hqn : q ≤ 1000 := by
      have : q * 1 ≤ q * c := Nat.mul_le_mul_left q hc
      omega
    have hb : -2000000000 ≤ (q : Int) * g ∧ (q : Int) * g ≤ 2000000000 := by
      constructor
      · have : (q : Int) * (-2000000) ≤ (q : Int) * g := Int.mul_le_mul_of_nonneg_left hg.1 (by omega)
        omega
      · have : (q : Int) * g ≤ (q : Int) * 2000000 := Int.mul_le_mul_of_nonneg_left hg.2 (by omega)
        omega
    have v := isVal_t ((isMat_t (hok (s + r) (by omega))).2.2.2.2.2 i (by rw [sq7_len hF]; exact hi) j (by rw [sq7_wid (by omega)]; exact hj))
    have e2 : ((q + 1 : Nat) : Int) * g = (q : Int) * g + g := by rw [Int.natCast_add, Int.add_mul]; simp
    rw [e2]
    generalize (q : Int) * g = z at *
    unfold times
    split <;> split <;> split <;> omega
theorem wid_unitP {n : Nat} (h : 1 ≤ n) : wid (unitM n) = n := mk_wid _ _ _ (by omega)
/-- The entry of a power as PowerEntry tells it is that of the power itself. -/
theorem gp_entry {R : List (List Int)} {n s e i j : Nat} {g : Int} (hs : sqB R = true) (hn : n ≤ 100) (hp : (powN R n).2 = true) (hse : s < e) (hr : repQ R (unitM R.length) s e = true) (hg : g = grQ R (unitM R.length) s e)
    (h4 : okQ R (unitM R.length) s = true) (h5 : okQ R (unitM R.length) e = true) (hi : i < R.length) (hj : j < R.length) :
    ent (powN R n).1 i j = peVal R n i j s ((e : Int) - s) g := by
  obtain ⟨hR, hw⟩ := sqB_t hs
  obtain ⟨a1, a2, -⟩ := isMat_t hR
  have hF : (unitM R.length).length = R.length := by unfold unitM; simp
  have hwF := wid_unitP (n := R.length) a1
  have hl := sq7_len (R := R) (F := unitM R.length) hF
  have hwd := sq7_wid (R := R) (F := unitM R.length) (by omega)
  have hok : ∀ m, m ≤ n → okQ R (unitM R.length) m = true := fun m hm => by
    unfold okQ
    rw [powN_sq hR hw m (powN_down hp hm)]
    exact powN_ok a1 a2 m (powN_down hp hm)
  obtain ⟨c, rfl⟩ : ∃ c, e = s + c := ⟨e - s, by omega⟩
  have hc : 1 ≤ c := by omega
  have hcc : ((s + c : Nat) : Int) - (s : Int) = (c : Int) := by omega
  rw [hcc]
  have hn7 : nrm (sq7 R (unitM R.length) s).flatten = nrm (sq7 R (unitM R.length) (s + c)).flatten := of_decide_eq_true hr
  have hx := ent_pat (X := sq7 R (unitM R.length) s) (Y := sq7 R (unitM R.length) (s + c)) h4 h5 (by rw [hl, hl]) (by rw [hwd, hwd]) hn7
  have h0 : ∀ i, i < R.length → ∀ j, j < wid (unitM R.length) → ent (sq7 R (unitM R.length) (s + c)) i j = times (ent (sq7 R (unitM R.length) s) i j) g := fun i hi j hj => by
    rw [hg]
    exact hx i (by rw [hl]; exact hi) j (by rw [hwd]; exact hj)
  have hgb : -2000000 ≤ g ∧ g ≤ 2000000 := by
    have m1 := isVal_t (maxL_vals (flat_vals h4))
    have m2 := isVal_t (maxL_vals (flat_vals h5))
    have hfl := flat_len (X := sq7 R (unitM R.length) s) (Y := sq7 R (unitM R.length) (s + c)) h4 h5 (by rw [hl, hl]) (by rw [hwd, hwd])
    have e1 := (nrm_gap hfl (flat_vals h4) (flat_vals h5) hn7).1
    have e2 := gapI_bd hfl (flat_vals h4) (flat_vals h5)
    rw [hg]
    unfold grQ
    omega
  rw [← powN_sq hR hw n hp]
  unfold peVal
  rw [Int.toNat_natCast, Int.toNat_natCast]
  by_cases q : n ≤ s
  · obtain ⟨q1, q2⟩ := pe_small (c := c) q
    rw [q1, q2, Int.zero_mul]
    have v := isVal_t ((isMat_t (hok n (Nat.le_refl _))).2.2.2.2.2 i (by rw [hl]; exact hi) j (by rw [hwd, hwF]; exact hj))
    unfold times
    split <;> omega
  · obtain ⟨q1, q2⟩ := pe_great (c := c) (show s < n by omega)
    rw [q1, q2]
    have hd := Nat.div_add_mod (n - s) c
    have e : s + (n - s) % c + (n - s) / c * c = n := by rw [Nat.mul_comm]; omega
    have := sq_rounds (r := (n - s) % c) hR hw.symm hF hgb h0 hok (by omega) hc ((n - s) / c) (by omega) i hi j (by rw [hwF]; exact hj)
    rw [e] at this
    exact this
end M
end Go.Proofs.Ytjljplolonpldaa

namespace Go.Proofs.Ytjljplolonpldaa.V
open Go.RowKit

set_option maxRecDepth 100000 in
set_option maxHeartbeats 400000 in
theorem eqInts (a : Option Addr) (n cap : Nat) (l : List Int) (a' : Option Addr) (n' cap' : Nat) (l' : List Int) (w : World) (h : Ints .i64 w a n l) (h' : Ints .i64 w a' n' l') (heq : l = l') :
    Calls Try.prog 23 #[.slice a n cap, .slice a' n' cap'] w fun e w' => e = .returned (.bool true) ∧ ∃ q, w' = w.drewN q := by
  subst heq
  obtain ⟨hl, hm, hr⟩ := h
  obtain ⟨hl', hm', hr'⟩ := h'
  obtain rfl : n = n' := by omega
  unfold maxLen at hm
  clear hm'
  have HL := Lib.hid hl
  clear hl hl'
  go_enter Try.func23, Try.ntmps23
  go_wp2
  go_loopw [5] (fun i wr => ∃ k : Nat, k ≤ n ∧ i = .int .i64 k ∧ ∃ q, wr = w.drewN q) (fun i _ => n - (intOf i).toNat)
  case atStart => exact ⟨0, Nat.zero_le _, rfl, 0, rfl⟩
  case round =>
    obtain ⟨k, hk, rfl, q, rfl⟩ := hrel
    by_cases hlt : k < n
    · rcases hr with h0 | ⟨b, off, rfl, hbl, hc⟩
      · omega
      rcases hr' with h0 | ⟨b', off', rfl, hbl', hc'⟩
      · omega
      have hck := hc k hlt
      have hck' := hc' k hlt
      obtain ⟨x, hx⟩ : ∃ x, x = l.getD k 0 := ⟨_, rfl⟩
      rw [← hx] at hck hck'
      clear hc hx hc'
      have hki : (k : Int) < (n : Int) := by omega
      go_wp2
      go_quiet (fail)
      go_wp2
      go_roundw
      case rel => exact ⟨k + 1, by omega, by go_num, _, rfl⟩
      case measure => simp [intOf]; omega
    · have hkn : k = n := by omega
      subst hkn
      clear hr hr'
      go_wp2
      go_ret
      exact ⟨rfl, q, rfl⟩

set_option maxRecDepth 100000 in
set_option maxHeartbeats 400000 in
theorem copyInts (a : Option Addr) (n cap : Nat) (l : List Int) (w : World) (h : Ints .i64 w a n l) (hs : n ≤ 1048576) :
    Calls Try.prog 21 #[.slice a n cap] w fun e w' => e = .returned (.slice (some ⟨w.heap.size, 0, none⟩) n n) ∧ Own w' w.heap.size (.slice (some ⟨w.heap.size, 0, none⟩) n n) l ∧ Below w.heap.size w w' := by
  obtain ⟨hl, hm, hr⟩ := h
  have hm2 := hm
  unfold maxLen at hm
  have HL := Lib.hid hl
  clear hl
  have hmk := run_make_row' (P := Try.prog) 29 2 (.int .i64 0) 8 Try.underlying29 info64 rfl .i64 .i64 n (by omega) (by omega)
  go_enter Try.func21, Try.ntmps21
  go_wp2
  clear hmk
  go_loopw [4] (fun i wr => ∃ k : Nat, k ≤ n ∧ i = .int .i64 k ∧ Own wr w.heap.size (.slice (some ⟨w.heap.size, 0, none⟩) n n) ((List.range n).map fun j => if j < k then l.getD j 0 else 0) ∧ Below w.heap.size w wr) (fun i _ => n - (intOf i).toNat)
  case atStart => exact ⟨0, Nat.zero_le _, rfl, by simpa using own_made w _ n (Nat.le_refl _) hm2, b_alloc _ _⟩
  case round =>
    obtain ⟨k, hk, rfl, hrow, hb⟩ := hrel
    by_cases hlt : k < n
    · rcases hr with h0 | ⟨b, off, rfl, hbl, hc⟩
      · omega
      have hck := hc k hlt
      obtain ⟨x, hx⟩ : ∃ x, x = l.getD k 0 := ⟨_, rfl⟩
      rw [← hx] at hck
      have hck' : wr.cell? ⟨b, off + k, none⟩ = some (.int .i64 x) := by rw [hb.cell (p := ⟨b, off + k, none⟩) hbl]; exact hck
      have hst : ∃ v, wr.cell? ⟨w.heap.size, k, none⟩ = some v := ⟨_, hrow.cellAt k hlt⟩
      obtain ⟨v, hst⟩ := hst
      have hfz := hrow.frozenAt k
      have HR := Lib.hid hrow
      have HB := Lib.hid hb
      have HX := Lib.hid hx
      clear hc hx hck hrow hb
      go_wp2
      go_roundw
      case rel =>
        refine ⟨k + 1, by omega, by go_num, ?_, HB.out.setCell (Nat.le_refl _) _⟩
        have := Own.set HR.out k x
        rw [M.map_set] at this
        refine (congrArg (Own _ _ _) (List.map_congr_left fun j hj => ?_)).mp this
        by_cases e : j = k
        · subst e; rw [if_pos rfl, if_pos (by omega), HX.out]
        · rw [if_neg e]
          by_cases e2 : j < k
          · rw [if_pos e2, if_pos (by omega)]
          · rw [if_neg e2, if_neg (by omega)]
      case measure => simp [intOf]; omega
    · have hkn : k = n := by omega
      subst hkn
      have HR := Lib.hid hrow
      have HB := Lib.hid hb
      clear hr hrow hb
      go_wp2
      go_ret
      refine ⟨rfl, ?_, HB.out⟩
      refine (congrArg (Own _ _ _) ?_).mp HR.out
      have hl := HL.out
      apply List.ext_getElem
      · simp [hl]
      · intro i h1 h2
        simp [show i < k by omega, h2]

/-- What is left of a size. -/
def SzPost (n : Nat) (left : Int) (w : World) (e : Ending) (w' : World) : Prop := ∃ x : Int, e = .returned (.int .i64 x) ∧ (x < 0 ∨ (0 ≤ x ∧ x + n = left)) ∧ w = w'

set_option maxRecDepth 100000 in
set_option maxHeartbeats 400000 in
theorem szInts (a : Option Addr) (n cap : Nat) (left : Int) (w : World) (hm : n ≤ maxLen) (h1 : 0 ≤ left) (h2 : left ≤ 1048576) :
    Calls Try.prog 70 #[.slice a n cap, .int .i64 left] w (SzPost n left w) := by
  unfold maxLen at hm
  by_cases hlt : left < n
  · go_enter Try.func70, Try.ntmps70
    go_wp2
    go_ret
    exact ⟨_, rfl, .inl (by omega), rfl⟩
  · go_enter Try.func70, Try.ntmps70
    go_wp2
    go_ret
    exact ⟨_, rfl, .inr ⟨by omega, by omega⟩, rfl⟩

/-- What is left of a size: nothing, or all the sizes fit. -/
def SzMPost (n : Nat) (R : List (List Int)) (left : Int) (w : World) (e : Ending) (w' : World) : Prop := ∃ x : Int, e = .returned (.int .i64 x) ∧ (x < 0 ∨ (0 ≤ x ∧ x ≤ left ∧ (n : Int) ≤ left ∧ (M.pre R R.length : Int) ≤ left)) ∧ w = w'

set_option maxRecDepth 100000 in
set_option maxHeartbeats 400000 in
theorem szIntss (a : Option Addr) (n cap : Nat) (R : List (List Int)) (left : Int) (w : World) (h : Mat w a n R) (h1 : 0 ≤ left) (h2 : left ≤ 1048576) :
    Calls Try.prog 15 #[.slice a n cap, .int .i64 left] w (SzMPost n R left w) := by
  have HM := Lib.hid h
  obtain ⟨hl, hm, -⟩ := h
  unfold maxLen at hm
  have HL := Lib.hid hl
  clear hl
  by_cases hlt : left < n
  · go_enter Try.func15, Try.ntmps15
    go_wp2
    go_ret
    exact ⟨_, rfl, .inl (by omega), rfl⟩
  · go_enter Try.func15, Try.ntmps15
    go_wp2
    go_loop [1, 5] (fun x i => ∃ (k : Nat) (y : Int), k ≤ n ∧ i = .int .i64 k ∧ x = .int .i64 y ∧ 0 ≤ y ∧ (M.pre R k : Int) + n + y ≤ left) (fun _ i => n - (intOf i).toNat)
    case atStart => exact ⟨0, left - n, Nat.zero_le _, rfl, rfl, by omega, by rw [M.pre_zero]; omega⟩
    case round =>
      obtain ⟨k, y, hk, rfl, rfl, hy, hp⟩ := hrel
      by_cases hkn : k < n
      · obtain ⟨b, off, ra, rc, L, l, rfl, hbl, hll, hc, hI⟩ := HM.out.at k hkn
        have hps := M.pre_succ R k (by have := HL.out; omega)
        have hLl : L = l.length := hI.1.symm
        rw [← hll, ← hLl] at hps
        have HP := Lib.hid hps
        have hLm := hI.2.1
        clear hI hll hps hLl
        go_wp2_with fail
        refine (szInts _ _ _ _ _ hLm hy (by omega)).mono ?_
        rintro e w' ⟨z, rfl, hz, rfl⟩
        rcases hz with hz | ⟨hz1, hz2⟩
        · go_wp2
          go_ret
          exact ⟨_, rfl, .inl (by omega), rfl⟩
        · go_wp2
          go_round
          case rel => exact ⟨k + 1, z, by omega, by go_num, rfl, hz1, by rw [HP.out]; omega⟩
          case measure => simp [intOf]; omega
      · obtain rfl : k = n := by omega
        go_wp2
        go_ret
        exact ⟨_, rfl, .inr ⟨hy, by omega, by omega, by rw [HL.out]; omega⟩, rfl⟩

end Go.Proofs.Ytjljplolonpldaa.V

namespace Go.Proofs.Ytjljplolonpldaa.V
open Go.RowKit

/-- Only blocks of S may have changed, and no others were added. -/
structure Chg (S : Nat → Prop) (w w' : World) : Prop where
  os : w'.os = w.os
  tape : w'.tape = w.tape
  output : w'.output = w.output
  size : w'.heap.size = w.heap.size
  other : ∀ k, ¬ S k → w'.heap[k]? = w.heap[k]?

theorem Chg.refl (S : Nat → Prop) (w : World) : Chg S w w := ⟨rfl, rfl, rfl, rfl, fun _ _ => rfl⟩
theorem Chg.trans {S : Nat → Prop} {a b c : World} (h : Chg S a b) (k : Chg S b c) : Chg S a c :=
  ⟨k.os.trans h.os, k.tape.trans h.tape, k.output.trans h.output, k.size.trans h.size, fun i hi => (k.other i hi).trans (h.other i hi)⟩
theorem Chg.mono {S S' : Nat → Prop} {a b : World} (h : Chg S a b) (hs : ∀ k, S k → S' k) : Chg S' a b :=
  ⟨h.os, h.tape, h.output, h.size, fun k hk => h.other k (fun hh => hk (hs k hh))⟩
theorem Chg.below {S : Nat → Prop} {a b : World} {B : Nat} (h : Chg S a b) (hs : ∀ k, S k → B ≤ k) : Below B a b :=
  ⟨h.os, h.tape, h.output, Nat.le_of_eq h.size.symm, fun k hk => h.other k (fun hh => by have := hs k hh; omega)⟩
theorem Chg.set {S : Nat → Prop} {a b : World} (h : Chg S a b) {g i : Nat} (hg : S g) (v : Value) : Chg S a (b.setCell ⟨g, i, none⟩ v) :=
  ⟨h.os, h.tape, h.output, by have := h.size; simpa [World.setCell] using this, fun k hk => (Below.heap_setCell _ _ _ _ (by show k ≠ g; intro e; subst e; exact hk hg)).trans (h.other k hk)⟩
theorem Own.chg {S : Nat → Prop} {w w' : World} {B : Nat} {v : Value} {l : List Int} (h : Own w B v l) (hc : Chg S w w') (hs : ∀ k, v.ownBlock = some k → ¬ S k) : Own w' B v l :=
  ownsRow_keep h fun k hk => hc.other k (hs k hk)

/-- The blocks from lo up to hi are as they were. -/
def Same (lo hi : Nat) (w w' : World) : Prop := ∀ k, lo ≤ k → k < hi → w'.heap[k]? = w.heap[k]?
theorem Same.refl (lo hi : Nat) (w : World) : Same lo hi w w := fun _ _ _ => rfl
theorem Same.below {lo hi b : Nat} {a w w' : World} (h : Same lo hi a w) (hb : Below b w w') (hh : hi ≤ b) : Same lo hi a w' :=
  fun k h1 h2 => (hb.block k (by omega)).trans (h k h1 h2)
theorem Same.chg {S : Nat → Prop} {lo hi : Nat} {a w w' : World} (h : Same lo hi a w) (hc : Chg S w w') (hs : ∀ k, lo ≤ k → k < hi → ¬ S k) : Same lo hi a w' :=
  fun k h1 h2 => (hc.other k (hs k h1 h2)).trans (h k h1 h2)

/-- One row of an owned matrix is rewritten. -/
theorem OwnV.row {w w' : World} {B : Nat} {v : Value} {R : List (List Int)} {V : List Value} {l : List Int} (h : OwnV w B v R V) (i : Nat) (hi : i < R.length) (ho : Own w' B (V.getD i (.slice none 0 0)) l)
    (hc : Chg (fun k => (V.getD i (.slice none 0 0)).ownBlock = some k) w w') : OwnV w' B v (R.set i l) V := by
  obtain ⟨h1, h2, h3, h4, h5⟩ := h
  refine ⟨by simpa using h1, ?_, ?_, ?_, ?_⟩
  · rw [List.length_set]
    exact ownsRow_keep h2 fun k hk => hc.other k (fun e => h4 i hi k e hk)
  · intro j hj
    simp only [List.length_set] at hj
    rw [getD_set _ _ _ _ _ hi]
    by_cases e : j = i
    · subst e; rw [if_pos rfl]; exact ho
    · rw [if_neg e]
      exact (h3 j hj).chg hc (fun k hk e2 => h5 j i hj hi e k hk e2)
  · intro j hj
    simp only [List.length_set] at hj
    exact h4 j hj
  · intro j t hj ht
    simp only [List.length_set] at hj ht
    exact h5 j t hj ht

set_option maxRecDepth 100000 in
set_option maxHeartbeats 400000 in
theorem markInts (a : Option Addr) (n cap B : Nat) (l : List Int) (m : Int) (w : World) (h : Own w B (.slice a n cap) l) (hn : n ≤ 1048576) (h1 : 0 ≤ m) (h2 : m ≤ 40000000) :
    Calls Try.prog 25 #[.slice a n cap, .int .i64 m] w fun e w' => e = .returned (.int .i64 (m + n)) ∧ Own w' B (.slice a n cap) (M.iota m n) ∧ Chg (fun k => (Value.slice a n cap).ownBlock = some k) w w' := by
  have HO := Lib.hid h
  have HL := Lib.hid h.len
  have hgg := own_form h
  obtain ⟨a', c', hv, -, -, hg⟩ := hgg
  injection hv with e1 e2 e3
  subst e1 e3
  rw [← e2] at hg
  clear h e2
  go_enter Try.func25, Try.ntmps25
  go_wp2
  go_loopw [1, 5] (fun x i wr => ∃ k : Nat, k ≤ n ∧ i = .int .i64 k ∧ x = .int .i64 (m + k) ∧ Own wr B (.slice a n cap) ((List.range n).map fun j => if j < k then m + (j : Int) else l.getD j 0) ∧ Chg (fun k => (Value.slice a n cap).ownBlock = some k) w wr) (fun _ i _ => n - (intOf i).toNat)
  case atStart =>
    refine ⟨0, Nat.zero_le _, rfl, by simp, ?_, Chg.refl _ _⟩
    refine (congrArg (Own _ _ _) ?_).mp HO.out
    have hl := HL.out
    apply List.ext_getElem
    · simp [hl]
    · intro i h1 h2
      simp [h1]
  case round =>
    obtain ⟨k, hk, rfl, rfl, hrow, hb⟩ := hrel
    by_cases hlt : k < n
    · obtain ⟨g, rfl, hBg, hgl⟩ := hg (by omega)
      have hst : ∃ v, wr.cell? ⟨g, k, none⟩ = some v := ⟨_, hrow.cellAt k hlt⟩
      obtain ⟨v, hst⟩ := hst
      have hfz := hrow.frozenAt k
      have HR := Lib.hid hrow
      have HB := Lib.hid hb
      clear hrow hb hg
      have hb1 : 0 ≤ m + (k : Int) := by omega
      have hb2 : m + (k : Int) ≤ 50000000 := by omega
      go_wp2
      go_roundw
      case rel =>
        refine ⟨k + 1, by omega, by go_num, vi (by omega), ?_, HB.out.set rfl _⟩
        have := Own.set HR.out k (m + k)
        rw [M.map_set] at this
        refine (congrArg (Own _ _ _) (List.map_congr_left fun j hj => ?_)).mp this
        by_cases e : j = k
        · subst e; rw [if_pos rfl, if_pos (by omega)]
        · rw [if_neg e]
          by_cases e2 : j < k
          · rw [if_pos e2, if_pos (by omega)]
          · rw [if_neg e2, if_neg (by omega)]
      case measure => simp [intOf]; omega
    · have hkn : k = n := by omega
      subst hkn
      have HR := Lib.hid hrow
      have HB := Lib.hid hb
      clear hrow hb hg
      go_wp2
      go_ret
      refine ⟨rfl, (congrArg (Own _ _ _) ?_).mp HR.out, HB.out⟩
      unfold M.iota
      exact List.map_congr_left fun j hj => by rw [if_pos (List.mem_range.1 hj)]

set_option maxRecDepth 100000 in
set_option maxHeartbeats 400000 in
theorem heldInts (a : Option Addr) (n cap : Nat) (m : Int) (w : World) (h : Ints .i64 w a n (M.iota m n)) (hn : n ≤ 1048576) (h1 : 0 ≤ m) (h2 : m ≤ 40000000) :
    Calls Try.prog 26 #[.slice a n cap, .int .i64 m] w fun e w' => e = .returned (.int .i64 (m + n)) ∧ w = w' := by
  have HI := Lib.hid h
  clear h
  go_enter Try.func26, Try.ntmps26
  go_wp2
  go_loop [1, 5] (fun x i => ∃ k : Nat, k ≤ n ∧ i = .int .i64 k ∧ x = .int .i64 (m + k)) (fun _ i => n - (intOf i).toNat)
  case atStart => exact ⟨0, Nat.zero_le _, rfl, by simp⟩
  case round =>
    obtain ⟨k, hk, rfl, rfl⟩ := hrel
    by_cases hlt : k < n
    · obtain ⟨b, off, x, rfl, hbl, hx, hc⟩ := HI.out.at k hlt
      rw [M.iota_getD m n k hlt] at hx
      subst hx
      have hb1 : 0 ≤ m + (k : Int) := by omega
      have hb2 : m + (k : Int) ≤ 50000000 := by omega
      go_wp2
      go_round
      case rel => exact ⟨k + 1, by omega, by go_num, vi (by omega)⟩
      case measure => simp [intOf]; omega
    · have hkn : k = n := by omega
      subst hkn
      go_wp2
      go_ret
      exact ⟨rfl, rfl⟩

set_option maxRecDepth 100000 in
set_option maxHeartbeats 400000 in
theorem markIntss (a : Option Addr) (n cap B : Nat) (R : List (List Int)) (m : Int) (w0 w : World) (h0 : OwnM w0 B (.slice a n cap) R) (hb0 : Same B w0.heap.size w0 w) (hn : n ≤ 1048576) (hp : M.pre R R.length ≤ 1048576) (h1 : 0 ≤ m) (h2 : m + M.pre R R.length ≤ 40000000) :
    Calls Try.prog 24 #[.slice a n cap, .int .i64 m] w fun e w' => e = .returned (.int .i64 (m + M.pre R R.length)) ∧ OwnM w' B (.slice a n cap) (M.marks m R) ∧ Chg (fun k => B ≤ k ∧ k < w0.heap.size) w w' := by
  obtain ⟨V, hV0⟩ := h0
  have hV : OwnV w B (.slice a n cap) R V := by
    obtain ⟨h1, h2, h3, h4, h5⟩ := hV0
    exact ⟨h1, ownsRow_keep h2 (fun k hv => hb0 k (own_lt h2 hv).1 (own_lt h2 hv).2), fun i hi => (h3 i hi).keep hb0, h4, h5⟩
  have hlt : ∀ i, i < n → ∀ k, (V.getD i (.slice none 0 0)).ownBlock = some k → B ≤ k ∧ k < w0.heap.size := by
    obtain ⟨e1, e2, e3, e4, e5⟩ := hV0
    have hl := OwnM.len ⟨V, e1, e2, e3, e4, e5⟩
    exact fun i hi k hk => own_lt (e3 i (by omega)) hk
  have HT := Lib.hid hlt
  have HL := Lib.hid (OwnM.len ⟨V, hV⟩)
  have hgg := own_form hV.2.1
  obtain ⟨a', c', hv, -, -, hg⟩ := hgg
  injection hv with e1 e2 e3
  subst e1 e3
  rw [← e2] at hg
  have HV := Lib.hid hV
  clear hV hlt hV0 e2 hb0
  go_enter Try.func24, Try.ntmps24
  go_wp2
  go_loopw [1, 5] (fun x i wr => ∃ (k : Nat) (y : Int), k ≤ n ∧ i = .int .i64 k ∧ x = .int .i64 y ∧ y = m + M.pre R k ∧ OwnV wr B (.slice a n cap) (M.marked m R k) V ∧ Chg (fun k => B ≤ k ∧ k < w0.heap.size) w wr) (fun _ i _ => n - (intOf i).toNat)
  case atStart => exact ⟨0, m, Nat.zero_le _, rfl, rfl, by rw [M.pre_zero]; omega, by rw [M.marked_zero]; exact HV.out, Chg.refl _ _⟩
  case round =>
    obtain ⟨k, y, hk, rfl, rfl, hy, hO, hb⟩ := hrel
    have HO := Lib.hid hO
    have HB := Lib.hid hb
    by_cases hlt : k < n
    · have hkR : k < R.length := by have := HL.out; omega
      have hps := M.pre_succ R k hkR
      have hpm := M.pre_mono R (show k + 1 ≤ R.length by omega)
      have hle := M.len_le_pre R k hkR
      obtain ⟨g, rfl, hBg, hgl⟩ := hg (by omega)
      have hrow := HO.out.2.2.1 k (by simpa using hkR)
      obtain ⟨ra, rc, hrv, hrc, hrm, hrg⟩ := own_form hrow
      have hcell : wr.cell? ⟨g, k, none⟩ = some (V.getD k (.slice none 0 0)) := by
        have e : n = (M.marked m R k).length := by have := HL.out; simpa using this
        have h2 := HO.out.2.1
        rw [← e] at h2
        rw [World.ownsRow.cellAt h2 k (by omega)]
        have := HO.out.1
        simp [show k < V.length by omega]
      rw [M.marked_rowlen m R k k hkR] at hrv hrc
      rw [hrv] at hcell hrow
      rw [M.marked_at m R k k hkR, if_neg (Nat.lt_irrefl _)] at hrow
      have y1 : 0 ≤ y := by omega
      have y2 : y ≤ 40000000 := by omega
      generalize hLn : (R.getD k []).length = L at *
      have hLs : L ≤ 1048576 := by omega
      have HY := Lib.hid hy
      have HP := Lib.hid hps
      have HRV := Lib.hid hrv
      have HRW := Lib.hid hrow
      have HLn := Lib.hid hLn
      have HTk := Lib.hid (HT.out k hlt)
      clear hO hb hg hps hpm hle hrow hrv hrg hrc hy hLn
      go_wp2_with fail
      refine (markInts _ _ _ B _ _ _ HRW.out hLs y1 y2).mono ?_
      rintro e w1 ⟨rfl, ho1, hc1⟩
      have hN : OwnV w1 B (.slice (some ⟨g, 0, none⟩) n cap) (M.marked m R (k + 1)) V := by
        have := HO.out.row k (by simpa using hkR) (l := M.iota y L) (by rw [HRV.out]; exact ho1) (by rw [HRV.out]; exact hc1)
        rw [HY.out, ← HLn.out, M.marked_set m R k hkR] at this
        exact this
      have HN := Lib.hid hN
      have HB1 := Lib.hid (HB.out.trans (hc1.mono (fun j hj => HTk.out j (by rw [HRV.out]; exact hj))))
      clear ho1 hc1 hN
      go_wp2
      go_roundw
      case rel => exact ⟨k + 1, y + L, by omega, by go_num, rfl, by rw [HY.out, HP.out]; omega, HN.out, HB1.out⟩
      case measure => simp [intOf]; omega
    · have hkn : k = n := by omega
      subst hkn
      have HY := Lib.hid hy
      clear hO hb hg hy
      go_wp2
      go_ret
      have e := HL.out
      refine ⟨by rw [HY.out, ← e]; rfl, ⟨V, ?_⟩, HB.out⟩
      unfold M.marks
      rw [← e]
      exact HO.out

set_option maxRecDepth 100000 in
set_option maxHeartbeats 400000 in
theorem heldIntss (a : Option Addr) (n cap : Nat) (R : List (List Int)) (m : Int) (w : World) (h : Mat w a n (M.marks m R)) (hp : M.pre R R.length ≤ 1048576) (h1 : 0 ≤ m) (h2 : m + M.pre R R.length ≤ 40000000) :
    Calls Try.prog 69 #[.slice a n cap, .int .i64 m] w fun e w' => e = .returned (.int .i64 (m + M.pre R R.length)) ∧ w = w' := by
  have HL : Hid (n = R.length) := by have := h.1; unfold M.marks at this; show _ = _; simpa using this.symm
  have hm := h.2.1
  have HI := Lib.hid h
  clear h
  unfold maxLen at hm
  go_enter Try.func69, Try.ntmps69
  go_wp2
  go_loop [1, 5] (fun x i => ∃ (k : Nat) (y : Int), k ≤ n ∧ i = .int .i64 k ∧ x = .int .i64 y ∧ y = m + M.pre R k) (fun _ i => n - (intOf i).toNat)
  case atStart => exact ⟨0, m, Nat.zero_le _, rfl, rfl, by rw [M.pre_zero]; omega⟩
  case round =>
    obtain ⟨k, y, hk, rfl, rfl, hy⟩ := hrel
    by_cases hlt : k < n
    · have hkR : k < R.length := by have := HL.out; omega
      have hps := M.pre_succ R k hkR
      have hpm := M.pre_mono R (show k + 1 ≤ R.length by omega)
      have hle := M.len_le_pre R k hkR
      obtain ⟨b, off, ra, rc, L, l, rfl, hbl, hll, hc, hI⟩ := HI.out.at k hlt
      unfold M.marks at hll
      rw [M.marked_at m R _ k hkR, if_pos hkR] at hll
      have hLe : L = (R.getD k []).length := by have := hI.1; rw [hll] at this; simpa using this.symm
      rw [← hLe] at hps hle hll
      rw [hll, ← hy] at hI
      have y1 : 0 ≤ y := by omega
      have y2 : y ≤ 40000000 := by omega
      have hLs : L ≤ 1048576 := by omega
      have HY := Lib.hid hy
      have HP := Lib.hid hps
      have HII := Lib.hid hI
      have hyL : 0 ≤ y + (L : Int) := by omega
      clear hI hll hps hpm hle hLe hy
      go_wp2_with fail
      refine (heldInts _ _ _ _ _ HII.out hLs y1 y2).mono ?_
      rintro e w' ⟨rfl, rfl⟩
      go_wp2
      go_round
      case rel => exact ⟨k + 1, y + L, by omega, by go_num, rfl, by rw [HY.out, HP.out]; omega⟩
      case measure => simp [intOf]; omega
    · have hkn : k = n := by omega
      subst hkn
      have HY := Lib.hid hy
      clear hy
      go_wp2
      go_ret
      have e := HL.out
      exact ⟨by rw [HY.out, ← e]; rfl, rfl⟩

/-- The same, said for the exact laws: the number is named, and what changed lies in the blocks of the marked slice. -/
theorem markM (a : Option Addr) (n cap B : Nat) (R : List (List Int)) (m : Int) (w0 w : World) (h0 : OwnM w0 B (.slice a n cap) R) (hb0 : Same B w0.heap.size w0 w) (hn : n ≤ 1048576) (hp : M.pre R R.length ≤ 1048576) (h1 : 0 ≤ m) (h2 : m + M.pre R R.length ≤ 40000000) :
    Calls Try.prog 24 #[.slice a n cap, .int .i64 m] w fun e w' => ∃ y : Int, e = .returned (.int .i64 y) ∧ 0 ≤ y ∧ Hid (y = m + M.pre R R.length) ∧ OwnM w' B (.slice a n cap) (M.marks m R) ∧ Chg (fun k => B ≤ k ∧ k < w0.heap.size) w w' := by
  refine (markIntss _ _ _ _ _ _ _ _ h0 hb0 hn hp h1 h2).mono ?_
  rintro e w' ⟨rfl, ho, hc⟩
  exact ⟨_, rfl, by omega, rfl, ho, hc⟩
theorem heldM (a : Option Addr) (n cap : Nat) (R : List (List Int)) (m y : Int) (w : World) (h : Mat w a n (M.marks m R)) (hp : M.pre R R.length ≤ 1048576) (h1 : 0 ≤ m) (h2 : m + M.pre R R.length ≤ 40000000) (hy : y = m + M.pre R R.length) :
    Calls Try.prog 69 #[.slice a n cap, .int .i64 m] w fun e w' => e = .returned (.int .i64 y) ∧ w = w' := by
  subst hy
  exact heldIntss _ _ _ _ _ _ h hp h1 h2
theorem markV (a : Option Addr) (n cap B : Nat) (l : List Int) (m : Int) (w0 w : World) (h0 : Own w0 B (.slice a n cap) l) (hb0 : Same B w0.heap.size w0 w) (hn : n ≤ 1048576) (h1 : 0 ≤ m) (h2 : m ≤ 40000000) :
    Calls Try.prog 25 #[.slice a n cap, .int .i64 m] w fun e w' => ∃ y : Int, e = .returned (.int .i64 y) ∧ 0 ≤ y ∧ Hid (y = m + n) ∧ Own w' B (.slice a n cap) (M.iota m n) ∧ Chg (fun k => B ≤ k ∧ k < w0.heap.size) w w' := by
  refine (markInts _ _ _ B l _ _ (h0.keep hb0) hn h1 h2).mono ?_
  rintro e w' ⟨rfl, ho, hc⟩
  exact ⟨_, rfl, by omega, rfl, ho, hc.mono (fun k hk => own_lt h0 hk)⟩
theorem heldV (a : Option Addr) (n cap : Nat) (m y : Int) (w : World) (h : Ints .i64 w a n (M.iota m n)) (hn : n ≤ 1048576) (h1 : 0 ≤ m) (h2 : m ≤ 40000000) (hy : y = m + n) :
    Calls Try.prog 26 #[.slice a n cap, .int .i64 m] w fun e w' => e = .returned (.int .i64 y) ∧ w = w' := by
  subst hy
  exact heldInts _ _ _ _ _ h hn h1 h2
end Go.Proofs.Ytjljplolonpldaa.V
