/- Texts laid together: End2, Sqq, OwnP, SAdd, Clo1, MatH, Clo2, Clo3, IBot, Hv1, Orb. -/
import Derived.Test.YtlljnfljcdljaaaQa5
import Derived.Test.YtlljnfljcdljaaaQa3
import Derived.Test.YtlljnfljcdljaaaQa2
import Derived.Deep.AppendLies
import Derived.Test.YtlljnfljcdljaaaRows
import Derived.Test.YtlljnfljcdljaaaQa1
import Derived.WalkKit
import Derived.ProofKit
import Derived.WalkSmall
import Derived.Deep.QuietTactic
import Derived.BigQuiet
import Derived.BigRegion
import Derived.Deep.Draws
import Derived.Lib.Hide
import Derived.OpenShut
import Derived.Deep.OwnRows
import Derived.StillTailTactics
import Derived.IntWalk
import Derived.Test.YtlljnfljcdljaaaQa4
import Derived.Lib.SliceRun
set_option linter.unusedSimpArgs false
set_option linter.unusedVariables false
set_option linter.unusedSectionVars false
namespace Go.Proofs.Ytlljnfljcdljaaa.V
open Go.RowKit
/-- The greatest of the first values. -/
def M.topN (f : Nat → Int) : Nat → Int
  | 0 => f 0
  | k + 1 => max (M.topN f k) (f (k + 1))
theorem M.topN_ge (f : Nat → Int) (m : Nat) : ∀ v, v ≤ m → f v ≤ M.topN f m := by
  induction m with
  | zero => intro v hv; obtain rfl : v = 0 := by omega
            exact Int.le_refl _
  | succ m ih =>
    intro v hv
    show _ ≤ max _ _
    by_cases e : v = m + 1
    · subst e; omega
    · have := ih v (by omega); omega
theorem M.topN_at (f : Nat → Int) (m : Nat) : ∃ v, v ≤ m ∧ M.topN f m = f v := by
  induction m with
  | zero => exact ⟨0, Nat.le_refl _, rfl⟩
  | succ m ih =>
    obtain ⟨v, h1, h2⟩ := ih
    rcases Int.le_total (M.topN f m) (f (m + 1)) with h | h
    · exact ⟨m + 1, Nat.le_refl _, Int.max_eq_right h⟩
    · exact ⟨v, by omega, (Int.max_eq_left h).trans h2⟩
theorem M.topN_congr {f g : Nat → Int} {m : Nat} (h : ∀ v, v ≤ m → f v = g v) : M.topN f m = M.topN g m := by
  induction m with
  | zero => exact h 0 (Nat.le_refl _)
  | succ m ih => show max _ _ = max _ _; rw [ih fun v hv => h v (by omega), h (m + 1) (Nat.le_refl _)]
theorem M.top_cyc {A : Nat → Nat → Int} {n : Nat} (h1 : 1 ≤ n) (h2 : n ≤ 10) (hA : ∀ i j, i < n → j < n → M.Sm 1000000 (A i j)) : decide (M.topN (fun i => (M.fkL A n n).getD i 0) (n - 1) ≠ -1000000000000000) = M.hasCyc A n := by
  have hc : M.topN (fun i => (M.fkL A n n).getD i 0) (n - 1) = M.topN (M.Fk A n n) (n - 1) := M.topN_congr fun v hv => M.fkL_at _ _ _ _ (by omega)
  rw [hc, Bool.eq_iff_iff, decide_eq_true_eq]
  unfold M.hasCyc
  rw [List.any_eq_true]
  obtain ⟨v, hv, e⟩ := M.topN_at (M.Fk A n n) (n - 1)
  constructor
  · intro h
    exact ⟨v, List.mem_range.2 (by omega), by rw [← e]; simpa using h⟩
  · rintro ⟨u, hu, h⟩
    have hu := List.mem_range.1 hu
    have h3 := M.topN_ge (M.Fk A n n) (n - 1) u (by omega)
    have h4 : M.Fk A n n u ≠ -1000000000000000 := by simpa using h
    rcases M.Fk_sm hA n v (by omega) with k | k
    · rcases M.Fk_sm hA n u hu with q | q
      · exact absurd q h4
      · omega
    · omega

set_option maxRecDepth 100000 in
set_option maxHeartbeats 1000000 in
theorem slicesMax (a : Option Addr) (n cap : Nat) (l : List Int) (w : World) (h : Ints .i64 w a n l) (h1 : 1 ≤ n) :
    Calls Try.prog 91 #[.slice a n cap] w fun e w' => e = .returned (.int .i64 (M.topN (fun i => l.getD i 0) (n - 1))) ∧ w = w' := by
  obtain ⟨hl, hm, hr⟩ := h
  unfold maxLen at hm
  have hn1 : ¬ (n : Int) < 1 := by omega
  rcases hr with h0 | ⟨b, off, rfl, hbl, hc⟩
  · omega
  have hc0 := hc 0 (by omega)
  rw [Nat.add_zero] at hc0
  have HC := Lib.hid hc
  clear hl hc
  go_enter Try.func91, Try.ntmps91
  go_wp2
  clear hc0
  go_loop [3, 4] (fun m i => ∃ k : Nat, 1 ≤ k ∧ k ≤ n ∧ i = .int .i64 k ∧ m = .int .i64 (M.topN (fun i => l.getD i 0) (k - 1))) (fun _ i => n - (intOf i).toNat)
  case atStart => exact ⟨1, Nat.le_refl _, h1, rfl, rfl⟩
  case round =>
    obtain ⟨k, hk1, hk, rfl, rfl⟩ := hrel
    by_cases hlt : k < n
    · have hki : (k : Int) < (n : Int) := by omega
      have hck := HC.out k hlt
      have HT : Hid (max (M.topN (fun i => l.getD i 0) (k - 1)) (l.getD k 0) = M.topN (fun i => l.getD i 0) (k + 1 - 1)) := by
        show _ = _
        obtain ⟨q, rfl⟩ : ∃ q, k = q + 1 := ⟨k - 1, by omega⟩
        rfl
      generalize M.topN (fun i => l.getD i 0) (k - 1) = y at HT ⊢
      generalize l.getD k 0 = x at HT hck
      go_wp2
      go_round
      case rel => exact ⟨k + 1, by omega, by omega, by go_num, by rw [← HT.out]; congr 1; split <;> omega⟩
      case measure => simp [intOf]; omega
    · obtain rfl : k = n := by omega
      go_wp2
      go_ret
      exact ⟨rfl, rfl⟩
end Go.Proofs.Ytlljnfljcdljaaa.V

namespace Go.Proofs.Ytlljnfljcdljaaa
namespace M
def sq7 (R F : List (List Int)) : Nat → List (List Int)
  | 0 => F
  | k + 1 => mulM R (sq7 R F k)
def sqL (R F : List (List Int)) (k : Nat) : List (List Int) := (List.range k).map fun i => (sq7 R F i).flatten
/-- The cells of a pattern. -/
def patC (X : List (List Int)) (h : Int) : List Int := (List.range 100).map fun t => if t / 10 < X.length ∧ t % 10 < wid X then times (ent X (t / 10) (t % 10)) (-h) else 0
theorem patC_len (X : List (List Int)) (h : Int) : (patC X h).length = 100 := by simp [patC]
theorem patC_get {X : List (List Int)} {h : Int} {i j : Nat} (hi : i < X.length) (hj : j < wid X) (h10 : i < 10) (j10 : j < 10) : (patC X h).getD (i * 10 + j) 0 = times (ent X i j) (-h) := by
  have e1 : (i * 10 + j) / 10 = i := by omega
  have e2 : (i * 10 + j) % 10 = j := by omega
  have e3 : i * 10 + j < 100 := by omega
  simp [patC, e3, e1, e2, hi, hj]
theorem patC_iff {X Y : List (List Int)} {h d : Int} (h1 : X.length = Y.length) (h2 : wid X = wid Y) (hx : X.length ≤ 10) (hw : wid X ≤ 10) : patC X h = patC Y d ↔ ∀ i, i < X.length → ∀ j, j < wid X → times (ent X i j) (-h) = times (ent Y i j) (-d) := by
  constructor
  · intro e i hi j hj
    rw [← patC_get (h := h) hi hj (by omega) (by omega), e, patC_get (by omega) (by omega) (by omega) (by omega)]
  · intro e
    refine List.map_congr_left fun t _ => ?_
    by_cases hc : t / 10 < X.length ∧ t % 10 < wid X
    · rw [if_pos hc, if_pos (by rw [← h1, ← h2]; exact hc)]
      exact e _ hc.1 _ hc.2
    · rw [if_neg hc, if_neg (by rw [← h1, ← h2]; exact hc)]
theorem shv_flat (X : List (List Int)) (g : Int) : shvL X.flatten g = (X.map fun l => shvL l g).flatten := by
  unfold shvL
  rw [List.map_flatten]
theorem flat_vals {X : List (List Int)} (h : isMat X = true) : Vals X.flatten := by
  intro i hi
  have hm : X.flatten.getD i 0 ∈ X.flatten := by rw [List.getD_eq_getElem?_getD, List.getElem?_eq_getElem hi]; exact List.getElem_mem hi
  obtain ⟨r, hr, hx⟩ := List.mem_flatten.1 hm
  obtain ⟨a, ha, rfl⟩ := List.mem_iff_getElem.1 hr
  obtain ⟨b, hb, e⟩ := List.mem_iff_getElem.1 hx
  have hl := isMat_len h ha
  have hv := isMat_val h ha (j := b) (by rw [← hl]; simpa [ha] using hb)
  rw [← e]
  simpa [ha, hb] using hv
theorem rows_len {X : List (List Int)} (h : isMat X = true) : X.map List.length = List.replicate X.length (wid X) := by
  refine List.ext_getElem (by simp) fun i h1 h2 => ?_
  have hi : i < X.length := by simpa using h1
  have := isMat_len h hi
  simp only [List.getElem_map, List.getElem_replicate]
  simpa [hi] using this
theorem flat_len {X Y : List (List Int)} (hx : isMat X = true) (hy : isMat Y = true) (h1 : X.length = Y.length) (h2 : wid X = wid Y) : X.flatten.length = Y.flatten.length := by
  rw [List.length_flatten, List.length_flatten, rows_len hx, rows_len hy, h1, h2]
theorem nrm_pat {X Y : List (List Int)} (hx : isMat X = true) (hy : isMat Y = true) (h1 : X.length = Y.length) (h2 : wid X = wid Y) : patC X (maxL X.flatten) = patC Y (maxL Y.flatten) ↔ nrm X.flatten = nrm Y.flatten := by
  obtain ⟨x1, x2, x3, x4, x5, -⟩ := isMat_t hx
  have y5 := (isMat_t hy).2.2.2.2.1
  rw [patC_iff h1 h2 x2 x4]
  unfold nrm
  rw [shv_flat, shv_flat]
  constructor
  · intro e
    congr 1
    refine List.ext_getElem (by simp [h1]) fun i q1 q2 => ?_
    have hi : i < X.length := by simpa using q1
    have hi2 : i < Y.length := by omega
    simp only [List.getElem_map]
    have l1 := x5 i hi
    have l2 := y5 i hi2
    have g1 : X.getD i [] = X[i] := by simp [hi]
    have g2 : Y.getD i [] = Y[i] := by simp [hi2]
    rw [shv_eq (by rw [← g1, ← g2, l1, l2, h2])]
    intro j hj
    have := e i hi j (by rw [← l1, g1]; exact hj)
    unfold ent at this
    rw [g1, g2] at this
    exact this
  · intro e i hi j hj
    have e2 : (X.map fun l => shvL l (-maxL X.flatten)) = (Y.map fun l => shvL l (-maxL Y.flatten)) := by
      rw [List.eq_iff_flatten_eq]
      refine ⟨e, ?_⟩
      rw [List.map_map, List.map_map]
      have f1 : ∀ g, (List.length ∘ fun l => shvL l g) = List.length := fun g => by funext l; simp [shv_len]
      rw [f1, f1, rows_len hx, rows_len hy, h1, h2]
    have hi2 : i < Y.length := by omega
    have l1 := x5 i hi
    have l2 := y5 i hi2
    have g1 : X.getD i [] = X[i] := by simp [hi]
    have g2 : Y.getD i [] = Y[i] := by simp [hi2]
    have e3 : shvL X[i] (-maxL X.flatten) = shvL Y[i] (-maxL Y.flatten) := by
      have := congrArg (fun L => L.getD i []) e2
      simpa [hi, hi2] using this
    rw [shv_eq (by rw [← g1, ← g2, l1, l2, h2])] at e3
    have := e3 j (by rw [← g1, l1]; exact hj)
    unfold ent
    rw [g1, g2]
    exact this
theorem maxL_app (l r : List Int) : maxL (l ++ r) = max (maxL l) (maxL r) := by
  unfold maxL
  rw [List.foldl_append]
  have : ∀ (r : List Int) (a b : Int), r.foldl max (max a b) = max a (r.foldl max b) := by
    intro r
    induction r with
    | nil => intro a b; rfl
    | cons x r ih => intro a b; rw [List.foldl_cons, List.foldl_cons, Int.max_assoc, ih]
  have h2 := this r (l.foldl max (-1000000000000000)) (-1000000000000000)
  rw [← h2]
  congr 1
  have := (maxL_foldl l (-1000000000000000)).1
  omega
/-! The search. -/
def inn (ok : Nat → Bool) (rep : Nat → Nat → Bool) (gr : Nat → Nat → Int) (k : Nat) : Nat → Nat → Option (Int × Int × Int × Int)
  | 0, _ => none
  | m + 1, e => if ok e then (if rep k e then some ((k : Int), (e : Int) - k, gr k e, 0) else inn ok rep gr k m (e + 1)) else some (0, 0, 0, 3)
def out (ok : Nat → Bool) (rep : Nat → Nat → Bool) (gr : Nat → Nat → Int) : Nat → Nat → Int × Int × Int × Int
  | 0, _ => (0, 0, 0, 4)
  | m + 1, k => (inn ok rep gr k (m + 1) (k + 1)).getD (out ok rep gr m (k + 1))
def outI (ok : Nat → Bool) (rep : Nat → Nat → Bool) (gr : Nat → Nat → Int) (k e : Nat) : Int × Int × Int × Int := (inn ok rep gr k (101 - e) e).getD (out ok rep gr (99 - k) (k + 1))
theorem out_start {ok : Nat → Bool} {rep : Nat → Nat → Bool} {gr : Nat → Nat → Int} {k : Nat} (hk : k < 100) : out ok rep gr (100 - k) k = outI ok rep gr k (k + 1) := by
  obtain ⟨m, hm⟩ : ∃ m, 100 - k = m + 1 := ⟨99 - k, by omega⟩
  unfold outI
  rw [hm, out, show 101 - (k + 1) = m + 1 by omega, show 99 - k = m by omega]
theorem outI_limit {ok : Nat → Bool} {rep : Nat → Nat → Bool} {gr : Nat → Nat → Int} {k e : Nat} (he : e ≤ 100) (h : ok e = false) : outI ok rep gr k e = (0, 0, 0, 3) := by
  obtain ⟨m, hm⟩ : ∃ m, 101 - e = m + 1 := ⟨100 - e, by omega⟩
  unfold outI
  rw [hm, inn, h]
  rfl
theorem outI_found {ok : Nat → Bool} {rep : Nat → Nat → Bool} {gr : Nat → Nat → Int} {k e : Nat} (he : e ≤ 100) (h : ok e = true) (h2 : rep k e = true) : outI ok rep gr k e = ((k : Int), (e : Int) - k, gr k e, 0) := by
  obtain ⟨m, hm⟩ : ∃ m, 101 - e = m + 1 := ⟨100 - e, by omega⟩
  unfold outI
  rw [hm, inn, h, h2]
  rfl
theorem outI_next {ok : Nat → Bool} {rep : Nat → Nat → Bool} {gr : Nat → Nat → Int} {k e : Nat} (he : e ≤ 100) (h : ok e = true) (h2 : rep k e = false) : outI ok rep gr k e = outI ok rep gr k (e + 1) := by
  obtain ⟨m, hm⟩ : ∃ m, 101 - e = m + 1 := ⟨100 - e, by omega⟩
  unfold outI
  rw [hm, inn, h, h2, show 101 - (e + 1) = m by omega]
  rfl
theorem outI_end {ok : Nat → Bool} {rep : Nat → Nat → Bool} {gr : Nat → Nat → Int} {k e : Nat} (he : ¬ e ≤ 100) (hk : k < 100) : outI ok rep gr k e = out ok rep gr (100 - (k + 1)) (k + 1) := by
  unfold outI
  rw [show 101 - e = 0 by omega, inn, show 100 - (k + 1) = 99 - k by omega]
  rfl
def okQ (R F : List (List Int)) (k : Nat) : Bool := isMat (sq7 R F k)
def repQ (R F : List (List Int)) (k e : Nat) : Bool := decide (nrm (sq7 R F k).flatten = nrm (sq7 R F e).flatten)
def grQ (R F : List (List Int)) (k e : Nat) : Int := maxL (sq7 R F e).flatten - maxL (sq7 R F k).flatten
def fnd (R F : List (List Int)) : Int × Int × Int × Int := out (okQ R F) (repQ R F) (grQ R F) 100 0
/-- All elements up to k consist of values. -/
def okTo (R F : List (List Int)) (k : Nat) : Prop := ∀ j, j ≤ k → okQ R F j = true
theorem sq7_len {R F : List (List Int)} (h : F.length = R.length) : ∀ k, (sq7 R F k).length = R.length
  | 0 => h
  | k + 1 => by show (mulM R _).length = _; simp [mulM]
theorem sq7_wid {R F : List (List Int)} (h0 : 0 < R.length) : ∀ k, wid (sq7 R F k) = wid F
  | 0 => rfl
  | k + 1 => by show wid (mulM R _) = _; unfold mulM; rw [mk_wid _ _ _ h0]; exact sq7_wid h0 k
theorem sqL_len (R F : List (List Int)) (k : Nat) : (sqL R F k).length = k := by simp [sqL]
theorem sqL_next (R F : List (List Int)) (k : Nat) : sqL R F (k + 1) = sqL R F k ++ [(sq7 R F k).flatten] := by simp [sqL, List.range_succ]
theorem sqL_get {R F : List (List Int)} {k i : Nat} (h : i < k) : (sqL R F k).getD i [] = (sq7 R F i).flatten := by simp [sqL, h]
/-- A column's sequence is its orbit. -/
theorem sq7_col {R : List (List Int)} {x : List Int} (hx : x.length = R.length) : ∀ k, sq7 R (mk R.length 1 fun i _ => x.getD i 0) k = mk R.length 1 fun i _ => (orb R x k).getD i 0
  | 0 => rfl
  | k + 1 => by
    show mulM R _ = _
    rw [sq7_col hx k]
    unfold mulM
    by_cases h0 : 0 < R.length
    · rw [mk_wid _ _ _ h0]
      refine mk_congr fun i hi j hj => ?_
      rw [orb, apply_get hi, orb_len hx k]
      unfold dot
      rw [show (mk R.length 1 fun i _ => (orb R x k).getD i 0).length = R.length by simp]
      refine sumN_congr fun t ht => ?_
      rw [ent_mk _ _ _ _ _ ht hj]
    · have : R.length = 0 := by omega
      simp [mk, this]
theorem mk_one_flat (n : Nat) (f : Nat → Int) : (mk n 1 fun i _ => f i).flatten = (List.range n).map f := by
  unfold mk
  induction List.range n with
  | nil => rfl
  | cons a l ih => simpa using ih
theorem orb_flat {R : List (List Int)} {x : List Int} (hx : x.length = R.length) (k : Nat) : (sq7 R (mk R.length 1 fun i _ => x.getD i 0) k).flatten = orb R x k := by
  rw [sq7_col hx, mk_one_flat]
  refine list_ext0 (by rw [orb_len hx]; simp) fun i hi => ?_
  have hi2 : i < R.length := by simpa using hi
  simp [hi2]
end M
end Go.Proofs.Ytlljnfljcdljaaa

namespace Go.Proofs.Ytlljnfljcdljaaa.V
open Go.RowKit
/-- An owned matrix all of whose blocks have the property P. -/
def OwnP (w : World) (B : Nat) (P : Nat → Prop) (v : Value) (R : List (List Int)) : Prop :=
  ∃ V, OwnV w B v R V ∧ (∀ k, v.ownBlock = some k → P k) ∧ ∀ i, i < R.length → ∀ k, (V.getD i (.slice none 0 0)).ownBlock = some k → P k
theorem OwnP.toM {w : World} {B : Nat} {P : Nat → Prop} {v : Value} {R : List (List Int)} (h : OwnP w B P v R) : OwnM w B v R := by
  obtain ⟨V, h, -⟩ := h
  exact ⟨V, h⟩
theorem OwnM.toP {w : World} {B : Nat} {P : Nat → Prop} {v : Value} {R : List (List Int)} (h : OwnM w B v R) (hP : ∀ k, B ≤ k → k < w.heap.size → P k) : OwnP w B P v R := by
  obtain ⟨V, h⟩ := h
  refine ⟨V, h, fun k hk => ?_, fun i hi k hk => ?_⟩
  · have := own_lt h.2.1 hk; exact hP k this.1 this.2
  · have := own_lt (h.2.2.1 i hi) hk; exact hP k this.1 this.2
theorem OwnP.imp {w : World} {B : Nat} {P Q : Nat → Prop} {v : Value} {R : List (List Int)} (h : OwnP w B P v R) (hP : ∀ k, P k → Q k) : OwnP w B Q v R := by
  obtain ⟨V, h, h1, h2⟩ := h
  exact ⟨V, h, fun k hk => hP k (h1 k hk), fun i hi k hk => hP k (h2 i hi k hk)⟩
theorem OwnP.mono {w : World} {B B' : Nat} {P : Nat → Prop} {v : Value} {R : List (List Int)} (h : OwnP w B P v R) (hb : B' ≤ B) : OwnP w B' P v R := by
  obtain ⟨V, ⟨h1, h2, h3, h4, h5⟩, k1, k2⟩ := h
  exact ⟨V, ⟨h1, World.ownsRow.mono h2 hb, fun i hi => (h3 i hi).mono hb, h4, h5⟩, k1, k2⟩
theorem OwnP.keep {w w' : World} {B : Nat} {P : Nat → Prop} {v : Value} {R : List (List Int)} (h : OwnP w B P v R) (hk : ∀ k, P k → B ≤ k → k < w.heap.size → w'.heap[k]? = w.heap[k]?) : OwnP w' B P v R := by
  obtain ⟨V, ⟨h1, h2, h3, h4, h5⟩, k1, k2⟩ := h
  exact ⟨V, ⟨h1, ownsRow_keep h2 (fun k hv => hk k (k1 k hv) (own_lt h2 hv).1 (own_lt h2 hv).2), fun i hi => ownsRow_keep (h3 i hi) (fun k hv => hk k (k2 i hi k hv) (own_lt (h3 i hi) hv).1 (own_lt (h3 i hi) hv).2), h4, h5⟩, k1, k2⟩
theorem OwnP.below {w w' : World} {B : Nat} {P : Nat → Prop} {v : Value} {R : List (List Int)} (h : OwnP w B P v R) (hb : Below w.heap.size w w') : OwnP w' B P v R :=
  h.keep (fun k _ _ h2 => hb.block k h2)
theorem OwnV.at {w : World} {B n cap : Nat} {a : Option Addr} {R : List (List Int)} {V : List Value} (h : OwnV w B (.slice a n cap) R V) (i j : Nat) (hi : i < n) (hj : j < (R.getD i []).length) :
    ∃ g q L c x, a = some ⟨g, 0, none⟩ ∧ B ≤ g ∧ B ≤ q ∧ L = (R.getD i []).length ∧ x = (R.getD i []).getD j 0 ∧ w.cell? ⟨g, i, none⟩ = some (.slice (some ⟨q, 0, none⟩) L c) ∧ w.cell? ⟨q, j, none⟩ = some (.int .i64 x) ∧ w.frozen? ⟨q, j, none⟩ = false ∧
      (V.getD i (.slice none 0 0)).ownBlock = some q ∧ ∀ y, OwnV (w.setCell ⟨q, j, none⟩ (.int .i64 y)) B (.slice a n cap) (R.set i ((R.getD i []).set j y)) V := by
  obtain ⟨h1, h2, h3, h4, h5⟩ := h
  obtain ⟨a', c', hv, hc, hm, hg⟩ := own_form h2
  injection hv with e1 e2 e3
  subst e1 e2 e3
  obtain ⟨g, rfl, hBg, hlt⟩ := hg (by omega)
  have hrow := h3 i hi
  obtain ⟨ra, rc, hrv, hrc, hrm, hrg⟩ := own_form hrow
  obtain ⟨q, rfl, hBq, hqlt⟩ := hrg (by omega)
  have hcell := World.ownsRow.cellAt h2 i (by omega)
  have hVi : V[i]? = some (V.getD i (.slice none 0 0)) := by simp [h1, hi]
  have hrow' := hrow
  rw [hrv] at hrow'
  have hcell2 := World.ownsRow.cellAt hrow' j (by omega)
  refine ⟨g, q, _, rc, _, rfl, hBg, hBq, rfl, rfl, ?_, ?_, World.ownsRow.frozenAt hrow' j, by rw [hrv]; rfl, fun y => ?_⟩
  · rw [hcell, hVi, hrv]
  · rw [hcell2]
    generalize R.getD i [] = l at hj
    simp [hj]
  · have hqg : q ≠ g := fun e => h4 i hi q (by rw [hrv]; rfl) (by rw [e]; rfl)
    refine ⟨by simpa using h1, ?_, ?_, ?_, ?_⟩
    · rw [List.length_set]
      exact ownsRow_keep h2 (fun k hv => Below.heap_setCell _ _ _ _ (by
        simp only [Value.ownBlock, Option.some.injEq] at hv; show k ≠ q; omega))
    · intro t ht
      simp only [List.length_set] at ht
      rw [getD_set _ _ _ _ _ (by omega)]
      by_cases e : t = i
      · subst e
        rw [if_pos rfl, hrv]
        exact Own.set hrow' j y
      · rw [if_neg e]
        refine ownsRow_keep (h3 t ht) (fun k hv => Below.heap_setCell _ _ _ _ ?_)
        show k ≠ q
        intro e2
        subst e2
        exact h5 t i ht hi e k hv (by rw [hrv]; rfl)
    · intro t ht
      simp only [List.length_set] at ht
      exact h4 t ht
    · intro t s ht hs
      simp only [List.length_set] at ht hs
      exact h5 t s ht hs

/-- What is needed to read and to write the entry at i, j. -/
theorem OwnP.at {w : World} {B n cap : Nat} {P : Nat → Prop} {a : Option Addr} {R : List (List Int)} (h : OwnP w B P (.slice a n cap) R) (i j : Nat) (hi : i < n) (hj : j < (R.getD i []).length) :
    ∃ g q L c x, a = some ⟨g, 0, none⟩ ∧ B ≤ g ∧ B ≤ q ∧ P q ∧ L = (R.getD i []).length ∧ x = (R.getD i []).getD j 0 ∧ w.cell? ⟨g, i, none⟩ = some (.slice (some ⟨q, 0, none⟩) L c) ∧ w.cell? ⟨q, j, none⟩ = some (.int .i64 x) ∧ w.frozen? ⟨q, j, none⟩ = false ∧
      ∀ y, OwnP (w.setCell ⟨q, j, none⟩ (.int .i64 y)) B P (.slice a n cap) (R.set i ((R.getD i []).set j y)) := by
  have hn := (OwnP.toM h).len
  obtain ⟨V, h, k1, k2⟩ := h
  obtain ⟨g, q, L, c, x, e1, e2, e3, e4, e5, c1, c2, f, hq, ho⟩ := h.at i j hi hj
  exact ⟨g, q, L, c, x, e1, e2, e3, k2 i (by omega) q hq, e4, e5, c1, c2, f, fun y => ⟨V, ho y, k1, fun i hi => k2 i (by simpa using hi)⟩⟩
theorem OwnV.snocV {w w1 w2 : World} {B q : Nat} {v v' rv : Value} {R : List (List Int)} {V : List Value} {l : List Int} (h : OwnV w B v R V) (hb : Below w.heap.size w w1) (hB : B ≤ w.heap.size) (ho : Own w1 w.heap.size rv l)
    (hw2 : w2.ownsRow B 24 1 v' (R.length + 1) (V ++ [rv])) (hg : ∀ k, k < w1.heap.size → v.ownBlock ≠ some k → w2.heap[k]? = w1.heap[k]?)
    (hvb : v'.ownBlock = v.ownBlock ∨ v'.ownBlock = some q) (hq : w1.heap.size ≤ q) : OwnV w2 B v' (R ++ [l]) (V ++ [rv]) := by
  obtain ⟨h1, h2, h3, h4, h5⟩ := h
  have eV : ∀ j, j < R.length → (V ++ [rv]).getD j (.slice none 0 0) = V.getD j (.slice none 0 0) := fun j hj => by
    simp [List.getD_eq_getElem?_getD, List.getElem?_append_left, h1, hj]
  have eV1 : (V ++ [rv]).getD R.length (.slice none 0 0) = rv := by
    simp [List.getD_eq_getElem?_getD, ← h1]
  have eR : ∀ j, j < R.length → (R ++ [l]).getD j [] = R.getD j [] := fun j hj => by
    simp [List.getD_eq_getElem?_getD, List.getElem?_append_left, hj]
  have eR1 : (R ++ [l]).getD R.length [] = l := by
    simp [List.getD_eq_getElem?_getD]
  have hold : ∀ j, j < R.length → ∀ k, (V.getD j (.slice none 0 0)).ownBlock = some k → k < w.heap.size := fun j hj k hk => (own_lt (h3 j hj) hk).2
  have hvn : ∀ k, k < w1.heap.size → v.ownBlock ≠ some k → v'.ownBlock ≠ some k := fun k hk hne => by
    rcases hvb with e | e
    · rw [e]; exact hne
    · rw [e]; intro e2; simp only [Option.some.injEq] at e2; omega
  have hvold : ∀ k, v.ownBlock = some k → k < w.heap.size := fun k hk => (own_lt h2 hk).2
  have hs := hb.size
  refine ⟨by simp [h1], by simpa using hw2, ?_, ?_, ?_⟩
  · intro j hj
    simp only [List.length_append, List.length_singleton] at hj
    by_cases e : j < R.length
    · rw [eV j e, eR j e]
      exact ownsRow_keep (h3 j e) (fun k hv => by
        have := hold j e k hv
        rw [hg k (by omega) (h4 j e k hv)]; exact hb.block k this)
    · obtain rfl : j = R.length := by omega
      rw [eV1, eR1]
      refine (ownsRow_keep ho (fun k hv => hg k (own_lt ho hv).2 (fun e2 => ?_)) : Own _ _ _ _).mono hB
      have := (own_lt ho hv).1
      have := hvold k e2
      omega
  · intro j hj k hk
    simp only [List.length_append, List.length_singleton] at hj
    by_cases e : j < R.length
    · rw [eV j e] at hk
      have := hold j e k hk
      exact hvn k (by omega) (h4 j e k hk)
    · obtain rfl : j = R.length := by omega
      rw [eV1] at hk
      have := own_lt ho hk
      exact hvn k this.2 (fun e2 => by have := hvold k e2; omega)
  · intro i j hi hj hne k hk
    simp only [List.length_append, List.length_singleton] at hi hj
    by_cases e : i < R.length
    · rw [eV i e] at hk
      by_cases e2 : j < R.length
      · rw [eV j e2]; exact h5 i j e e2 hne k hk
      · obtain rfl : j = R.length := by omega
        rw [eV1]
        intro e3
        have := hold i e k hk
        have := (own_lt ho e3).1
        omega
    · obtain rfl : i = R.length := by omega
      rw [eV1] at hk
      have e2 : j < R.length := by omega
      rw [eV j e2]
      intro e3
      have := hold j e2 k e3
      have := (own_lt ho hk).1
      omega
/-- A row of its own is appended, at a step of a region. -/
theorem step_appendRowP (w0 w : World) {ops : Array Oper} {o : Oper} {a : Act} {K : Act → World → Prop} {Q : Exit → Act → World → Prop} {E : Prop} (hgd : o.guard = none) (s x : Operand)
    (ho : o.op = .call { callee := .builtin .append, args := #[s, x], argTypes := #[58, 58] }) (B : Nat) (P : Nat → Prop) (v rv : Value) (R : List (List Int)) (l : List Int) (n g : Nat) (hn : R.length = n) (hs : a.eval s = v) (hown : OwnP w0 B P v R) (hb : Below w0.heap.size w0 w) (hro : Own w w0.heap.size rv l)
    (hx : a.eval x = .slice (some ⟨g, 0, none⟩) 1 1) (hy : w.cell? ⟨g, 0, none⟩ = some rv) (hlen : n ≤ 2000000) (hB : B ≤ w0.heap.size) (hP : ∀ k, w0.heap.size ≤ k → P k)
    (h : ∀ b' c' w', OwnP w' B P (.slice b' (n + 1) c') (R ++ [l]) → Below B w w' → (∀ k, k < w.heap.size → v.ownBlock ≠ some k → w'.heap[k]? = w.heap[k]?) → K (a.put o.dst (.slice b' (n + 1) c')) w') :
    if Region.wanted o (yielded ops a.tmps) = true then Oper.wp Try.prog o a w K Q else E := by
  subst hn
  obtain ⟨i0, hi, hz0, hz1, hz2⟩ := info_parts infoS64
  have hsz := hb.size
  obtain ⟨V, ⟨h1, h2, h3⟩, k1, k2⟩ := hown
  have hwV : w.ownsRow B 24 1 v R.length V := ownsRow_keep h2 (fun k hv => hb.block k (own_lt h2 hv).2)
  refine step_append_lies w hgd s x 58 ho B 24 i0 (.slice none 0 0) 1 24 Try.underlying58 hi hz0 hz1 hz2 rfl (by decide) v R.length V hs hwV ⟨g, 0, none⟩ 1 1 [rv] hx rfl ?c1 ?c2 (by decide) ?c3 ?c4 (Nat.le_trans hB hsz) w.heap.size rfl ?_
  case c1 =>
    intro j u hj
    have : j = 0 := by
      cases j with
      | zero => rfl
      | succ j => simp at hj
    subst this
    simp at hj
    subst hj
    exact hy
  case c2 =>
    intro u hu; simp at hu; subst hu
    obtain ⟨b', c', hv', _⟩ := own_form hro
    rw [hv']; rfl
  case c3 => unfold maxLen; omega
  case c4 => omega
  · intro g' cap' w' hown' hgrow hat hlt
    have hg : ∀ k, k < w.heap.size → v.ownBlock ≠ some k → w'.heap[k]? = w.heap[k]? := fun k hk hne => by
      obtain ⟨_, _, _, _, g5⟩ := hgrow
      exact g5 k hk (fun e => hne e.symm)
    have hV := OwnV.snocV (q := w.heap.size) (v' := .slice (some ⟨g', 0, none⟩) (R.length + 1) cap') ⟨h1, h2, h3⟩ hb hB hro hown' hg (by
      rcases hat with e | e
      · left; rw [e]; rfl
      · right; rw [e]; rfl) (Nat.le_refl _)
    refine h _ _ w' ⟨V ++ [rv], hV, fun k hk => ?_, fun i hi k hk => ?_⟩ ((Below.refl B w).grown hgrow (Nat.le_trans hB hsz) (fun k hk => (own_lt h2 hk).1)) hg
    · have hk' : g' = k := by simpa [Value.ownBlock] using hk
      subst hk'
      rcases hat with e | e
      · exact k1 _ e
      · exact hP _ (by omega)
    · have hlen : V.length = R.length := h1
      simp only [List.length_append, List.length_singleton] at hi
      by_cases q : i < R.length
      · rw [List.getD_eq_getElem?_getD, List.getElem?_append_left (by omega), ← List.getD_eq_getElem?_getD] at hk
        exact k2 i q k hk
      · obtain rfl : i = V.length := by omega
        have e : (V ++ [rv]).getD V.length (.slice none 0 0) = rv := by simp [List.getD_eq_getElem?_getD]
        rw [e] at hk
        exact hP k (own_lt hro hk).1
end Go.Proofs.Ytlljnfljcdljaaa.V

namespace Go.Proofs.Ytlljnfljcdljaaa.V
open Go.RowKit

theorem ints_cells {w : World} {b off n : Nat} {l : List Int} (hc : ∀ i, i < n → w.cell? ⟨b, off + i, none⟩ = some (.int .i64 (l.getD i 0))) (hl : l.length = n) : ∀ j u, (l.map (Value.int .i64))[j]? = some u → w.cell? ((⟨b, off, none⟩ : Addr).add j) = some u := by
  intro j u hj
  have hjn : j < n := by
    by_cases e : j < n
    · exact e
    · rw [List.getElem?_eq_none (by simp; omega)] at hj; cases hj
  rw [Go.WideShapes.add_plain, hc j hjn]
  rw [← hj]
  simp [show j < l.length by omega]

set_option maxRecDepth 100000 in
set_option maxHeartbeats 1000000 in
theorem sOwn (a : Option Addr) (n cap : Nat) (l : List Int) (w : World) (h : Ints .i64 w a n l) (h0 : 0 < n) (hn : n ≤ 1000) :
    Calls Try.prog 51 #[.slice a n cap] w fun e w' => ∃ b c, e = .returned (.slice b n c) ∧ Own w' w.heap.size (.slice b n c) l ∧ Below w.heap.size w w' := by
  obtain ⟨hl, hm, hr⟩ := h
  rcases hr with hr | ⟨b, off, rfl, hb, hc⟩
  · omega
  have HL := Lib.hid hl
  have HC := Lib.hid hc
  have HO : Hid (Own (w.alloc (.cells #[] 2)) w.heap.size (.slice (some ⟨w.heap.size, 0, none⟩) 0 0) []) := own_lit0 w _ (Nat.le_refl _)
  obtain ⟨i0, hi, hz0, hz1, hz2⟩ := info_parts info64
  clear hl hc hm
  have HI := Lib.hid hi
  clear hi
  go_enter Try.func51, Try.ntmps51
  go_wp2_with (at_builtin; refine wpList_append_own_at (w := w.alloc (.cells #[] 2)) rfl (.tmp 3) (.tmp 4) 24 rfl w.heap.size 2 i0 (.int .i64 0) 1 8 Try.underlying24 HI.out hz0 hz1 hz2 rfl (by decide) (.slice (some ⟨w.heap.size, 0, none⟩) 0 0) 0 [] rfl HO.out ⟨b, off, none⟩ n cap (l.map (Value.int .i64)) rfl ?c0 ?c1 ?c2 ?c3 ?c4 ?c5 ?_)
  case c0 => have := HL.out; simp [this]
  case c1 =>
    refine ints_cells (fun i hi' => ?_) HL.out
    rw [(b_alloc w _).cell (p := ⟨b, off + i, none⟩) hb]; exact HC.out i hi'
  case c2 => intro u hu; obtain ⟨x, _, rfl⟩ := List.mem_map.1 hu; rfl
  case c3 => unfold maxLen; omega
  case c4 => omega
  case c5 => simp
  intro v' w' ho hg hz hv
  have ho' : Own w' w.heap.size v' l := by
    show w'.ownsRow w.heap.size _ 1 v' l.length (l.map (Value.int .i64))
    rw [HL.out]
    simpa using ho
  obtain ⟨b', c', rfl, _⟩ := own_form ho'
  rw [HL.out] at ho' ⊢
  have HB : Hid (Below w.heap.size w w') := (b_alloc w _).grown hg (by simp) (fun k hk => by simp [Value.ownBlock] at hk; omega)
  have HO' := Lib.hid ho'
  clear ho ho' hg hz hv
  go_wp2
  go_ret
  exact ⟨_, _, rfl, HO'.out, HB.out⟩



end Go.Proofs.Ytlljnfljcdljaaa.V

namespace Go.Proofs.Ytlljnfljcdljaaa.V
open Go.RowKit



/-- Three entries of an owned square matrix, of which the first is written. -/
theorem OwnM.tri {w : World} {B n cap : Nat} {a : Option Addr} {R : List (List Int)} (h : OwnM w B (.slice a n cap) R) (hr : Rect R n n) (i j k : Nat) (hi : i < n) (hj : j < n) (hk : k < n) :
    ∃ g q c q' c', a = some ⟨g, 0, none⟩ ∧ B ≤ q ∧ w.cell? ⟨g, i, none⟩ = some (.slice (some ⟨q, 0, none⟩) n c) ∧ w.cell? ⟨q, j, none⟩ = some (.int .i64 (M.ent R i j)) ∧ w.cell? ⟨q, k, none⟩ = some (.int .i64 (M.ent R i k)) ∧
      w.cell? ⟨g, k, none⟩ = some (.slice (some ⟨q', 0, none⟩) n c') ∧ w.cell? ⟨q', j, none⟩ = some (.int .i64 (M.ent R k j)) ∧ w.frozen? ⟨q, j, none⟩ = false ∧
      ∀ y, OwnM (w.setCell ⟨q, j, none⟩ (.int .i64 y)) B (.slice a n cap) (R.set i ((R.getD i []).set j y)) := by
  obtain ⟨g, q, L, c, x, rfl, _, hq, hL, hx, h1, h2, h3, h4⟩ := h.at i j hi (by rw [hr.2 i hi]; exact hj)
  obtain ⟨g2, q2, L2, c2, x2, e, _, _, hL2, hx2, k1, k2, _, _⟩ := h.at i k hi (by rw [hr.2 i hi]; exact hk)
  injection e with e
  injection e with e
  subst e
  rw [h1] at k1
  injection k1 with k1
  injection k1 with k1 _ _
  injection k1 with k1
  injection k1 with k1
  subst k1
  obtain ⟨g3, q3, L3, c3, x3, e, _, _, hL3, hx3, m1, m2, _, _⟩ := h.at k j hk (by rw [hr.2 k hk]; exact hj)
  injection e with e
  injection e with e
  subst e
  rw [hr.2 i hi] at hL
  rw [hr.2 k hk] at hL3
  subst hL hL3 hx hx2 hx3
  exact ⟨g, q, c, q3, c3, rfl, hq, h1, h2, k2, m1, m2, h3, h4⟩
end Go.Proofs.Ytlljnfljcdljaaa.V

namespace Go.Proofs.Ytlljnfljcdljaaa
namespace M
/-- The least number from k on that fits, within so many. -/
def lv (p : Nat → Bool) : Nat → Nat → Nat
  | 0, k => k
  | f + 1, k => if p k then k else lv p f (k + 1)
theorem lv_is {p : Nat → Bool} {m : Nat} (hm : p m = true) (f : Nat) : ∀ k, k ≤ m → m < k + f → (∀ v, k ≤ v → v < m → p v = false) → lv p f k = m := by
  induction f with
  | zero => intro k h1 h2; omega
  | succ f ih =>
    intro k h1 h2 h3
    by_cases e : k = m
    · subst e; show (if p k then k else _) = _; rw [if_pos hm]
    · show (if p k then k else _) = _
      rw [h3 k (Nat.le_refl _) (by omega), if_neg (by simp)]
      exact ih (k + 1) (by omega) (by omega) fun v h4 h5 => h3 v (by omega) h5
theorem lv_ex {p : Nat → Bool} {n : Nat} (h : ∃ m, m < n ∧ p m = true) : p (lv p n 0) = true ∧ lv p n 0 < n ∧ ∀ v, v < lv p n 0 → p v = false := by
  have key : ∀ n, (∃ m, m < n ∧ p m = true) → ∃ m, m < n ∧ p m = true ∧ ∀ v, v < m → p v = false := by
    intro n
    induction n with
    | zero => rintro ⟨m, hm, _⟩; omega
    | succ n ih =>
      rintro ⟨m, hm, hp⟩
      by_cases e : ∃ m, m < n ∧ p m = true
      · obtain ⟨m, h1, h2, h3⟩ := ih e
        exact ⟨m, by omega, h2, h3⟩
      · refine ⟨m, hm, hp, fun v hv => ?_⟩
        cases h : p v with
        | false => rfl
        | true => exact absurd ⟨v, by omega, h⟩ e
  obtain ⟨m, h1, h2, h3⟩ := key n h
  rw [lv_is h2 n 0 (Nat.zero_le _) (by omega) fun v _ hv => h3 v hv]
  exact ⟨h2, h1, h3⟩
/-- Whether a heaviest path with s + 1 arcs goes on from x by v. -/
def stepB (A : Nat → Nat → Int) (n t s x v : Nat) : Bool := decide (times (cpw A n s t v) (A v x) = cpw A n (s + 1) t x)
def nxt (A : Nat → Nat → Int) (n t s x : Nat) : Nat := lv (stepB A n t s x) n 0
/-- The number of arcs. -/
def arcs (A : Nat → Nat → Int) (n f t : Nat) : Nat := lv (fun s => decide (cpw A n s t f = starF A n t f)) 11 0
/-- The nodes of the path. -/
def xs (A : Nat → Nat → Int) (n t s f : Nat) : Nat → Nat
  | 0 => f
  | k + 1 => nxt A n t (s - 1 - k) (xs A n t s f k)
def hvL (A : Nat → Nat → Int) (n t s f : Nat) (k : Nat) : List Int := (List.range k).map fun i => ((xs A n t s f i : Nat) : Int)
def heavyRes (R : List (List Int)) (f t : Int) : List Int × Int :=
  if sqB R then (if inN R.length f && inN R.length t then (if noPos (ent R) R.length then (if starF (ent R) R.length t.toNat f.toNat = -1000000000000000 then ([], 4)
    else (hvL (ent R) R.length t.toNat (arcs (ent R) R.length f.toNat t.toNat) f.toNat (arcs (ent R) R.length f.toNat t.toNat + 1), 0)) else ([], 5)) else ([], 2)) else ([], 1)
theorem hvL_len (A : Nat → Nat → Int) (n t s f k : Nat) : (hvL A n t s f k).length = k := by simp [hvL]
theorem hvL_succ (A : Nat → Nat → Int) (n t s f k : Nat) : hvL A n t s f (k + 1) = hvL A n t s f k ++ [((xs A n t s f k : Nat) : Int)] := by
  unfold hvL; rw [List.range_succ]; simp
theorem hvL_at (A : Nat → Nat → Int) (n t s f k i : Nat) (h : i < k) : (hvL A n t s f k).getD i 0 = ((xs A n t s f i : Nat) : Int) := by
  simp [hvL, h]
theorem lv_le (p : Nat → Bool) (f : Nat) : ∀ k, lv p f k ≤ k + f := by
  induction f with
  | zero => intro k; exact Nat.le_refl _
  | succ f ih =>
    intro k
    show (if p k then k else _) ≤ _
    split
    · omega
    · have := ih (k + 1); omega
theorem heavyRes_len (R : List (List Int)) (f t : Int) : (heavyRes R f t).1.length ≤ 12 := by
  unfold heavyRes
  split
  · split
    · split
      · split
        · simp
        · rw [hvL_len]
          have := lv_le (fun s => decide (cpw (ent R) R.length s t.toNat f.toNat = starF (ent R) R.length t.toNat f.toNat)) 11 0
          unfold arcs
          omega
      · simp
    · simp
  · simp
section
variable {A : Nat → Nat → Int} {n : Nat} (hn : n ≤ 10) (hA : ∀ i j, i < n → j < n → Sm 1000001000000 (A i j))
include hn hA
/-- There is a number of arcs with which the weight in the star is reached. -/
theorem arcs_is (hp : noPos A n = true) {f t : Nat} (hf : f < n) (ht : t < n) (h : starF A n t f ≠ -1000000000000000) :
    cpw A n (arcs A n f t) t f = starF A n t f ∧ arcs A n f t ≤ 10 ∧ ∀ s, s < arcs A n f t → cpw A n s t f ≠ starF A n t f := by
  have hd := o_diag hn hA hp
  have e1 : o (starF A n t f) = obm (fun i j => o (A i j)) n n t f := by
    unfold starF
    rw [← clo_star hn hA hp ht hf, o_cbm hA n (by omega) t f ht hf]
  obtain ⟨s, hs, hle⟩ := opw_star (f := fun i j => o (A i j)) ht hf (by rw [← e1]; exact fun e => h (o_none.1 e))
  have hge := opw_le hd ht hf s
  have e2 := ole_anti hge hle
  rw [← o_cpw hA s (by omega) t f ht hf, ← e1] at e2
  have e3 := o_inj e2
  obtain ⟨h1, h2, h3⟩ := lv_ex (p := fun s => decide (cpw A n s t f = starF A n t f)) (n := 11) ⟨s, by omega, by simpa using e3⟩
  refine ⟨of_decide_eq_true h1, by unfold arcs; omega, fun s hs => ?_⟩
  have := h3 s hs
  simpa using this
end
section
variable {A : Nat → Nat → Int} {n : Nat} (hA : ∀ i j, i < n → j < n → Sm 1000001000000 (A i j))
include hA
/-- A heaviest path with more than no arcs goes on. -/
theorem nxt_is {t s x : Nat} (hs : s ≤ 10) (ht : t < n) (hx : x < n) (h : cpw A n (s + 1) t x ≠ -1000000000000000) :
    nxt A n t s x < n ∧ times (cpw A n s t (nxt A n t s x)) (A (nxt A n t s x) x) = cpw A n (s + 1) t x ∧ ∀ v, v < nxt A n t s x → times (cpw A n s t v) (A v x) ≠ cpw A n (s + 1) t x := by
  have hex : ∃ v, v < n ∧ stepB A n t s x v = true := by
    have e := o_cpw hA (s + 1) (by omega) t x ht hx
    rcases osum_att n (fun u => omul (opw (fun i j => o (A i j)) n s t u) (o (A u x))) with k | ⟨u, hu, k⟩
    · exact absurd (o_none.1 (e.trans k)) h
    · refine ⟨u, hu, ?_⟩
      unfold stepB
      rw [decide_eq_true_eq]
      refine o_inj ?_
      rw [o_times (cpw_sm hA s t u ht hu) (hA u x hu hx) (by omega) (by omega), o_cpw hA s (by omega) t u ht hu]
      exact (e.trans k).symm
  obtain ⟨h1, h2, h3⟩ := lv_ex hex
  refine ⟨h2, of_decide_eq_true h1, fun v hv => ?_⟩
  have := h3 v hv
  simpa [stepB] using this
theorem nxt_fin {t s x : Nat} (hs : s ≤ 10) (ht : t < n) (hx : x < n) (h : cpw A n (s + 1) t x ≠ -1000000000000000) :
    cpw A n s t (nxt A n t s x) ≠ -1000000000000000 ∧ A (nxt A n t s x) x ≠ -1000000000000000 := by
  obtain ⟨h1, h2, -⟩ := nxt_is hA hs ht hx h
  refine ⟨fun e => h ?_, fun e => h ?_⟩
  · rw [← h2, e, bot_times]
  · rw [← h2, e, times_bot]
/-- Along the path the rest stays a heaviest one. -/
theorem xs_inv {t s f : Nat} (hs : s ≤ 10) (ht : t < n) (hf : f < n) (h : cpw A n s t f ≠ -1000000000000000) (k : Nat) (hk : k ≤ s) :
    xs A n t s f k < n ∧ cpw A n (s - k) t (xs A n t s f k) ≠ -1000000000000000 := by
  induction k with
  | zero => exact ⟨hf, h⟩
  | succ k ih =>
    obtain ⟨h1, h2⟩ := ih (by omega)
    have e : s - k = s - 1 - k + 1 := by omega
    rw [e] at h2
    show nxt A n t (s - 1 - k) (xs A n t s f k) < n ∧ cpw A n (s - (k + 1)) t (nxt A n t (s - 1 - k) (xs A n t s f k)) ≠ _
    rw [show s - (k + 1) = s - 1 - k by omega]
    exact ⟨(nxt_is hA (by omega) ht h1 h2).1, (nxt_fin hA (by omega) ht h1 h2).1⟩
/-- What is left of the weight. -/
theorem xs_need {t s f : Nat} (hs : s ≤ 10) (ht : t < n) (hf : f < n) (h : cpw A n s t f ≠ -1000000000000000) (k : Nat) (hk : k < s) :
    cpw A n (s - (k + 1)) t (xs A n t s f (k + 1)) = cpw A n (s - k) t (xs A n t s f k) - A (xs A n t s f (k + 1)) (xs A n t s f k) := by
  obtain ⟨h1, h2⟩ := xs_inv hA hs ht hf h k (by omega)
  have e : s - k = s - 1 - k + 1 := by omega
  rw [e] at h2
  have h3 := (nxt_is hA (by omega) ht h1 h2).2.1
  have h4 := nxt_fin hA (by omega) ht h1 h2
  rw [show s - (k + 1) = s - 1 - k by omega, e]
  show cpw A n (s - 1 - k) t (nxt A n t (s - 1 - k) (xs A n t s f k)) = _ - A (nxt A n t (s - 1 - k) (xs A n t s f k)) _
  unfold times at h3
  rw [if_neg (by rintro (e | e); exact h4.1 e; exact h4.2 e)] at h3
  omega
theorem xs_end {t s f : Nat} (hs : s ≤ 10) (ht : t < n) (hf : f < n) (h : cpw A n s t f ≠ -1000000000000000) : xs A n t s f s = t := by
  obtain ⟨h1, h2⟩ := xs_inv hA hs ht hf h s (Nat.le_refl _)
  rw [Nat.sub_self] at h2
  have h2 : unit t (xs A n t s f s) ≠ -1000000000000000 := h2
  unfold unit at h2
  split at h2
  · next e => exact e.symm
  · exact absurd rfl h2
end
end M
end Go.Proofs.Ytlljnfljcdljaaa

namespace Go.Proofs.Ytlljnfljcdljaaa.V
open Go.RowKit

/-- A matrix and a sign are returned. -/
def CPost (r : List (List Int) × Bool) (w : World) (e : Ending) (w' : World) : Prop :=
  ∃ b n c, e = .returned (.tuple #[.slice b n c, .bool r.2]) ∧ OwnM w' w.heap.size (.slice b n c) r.1 ∧ Below w.heap.size w w'

end Go.Proofs.Ytlljnfljcdljaaa.V

namespace Go.Proofs.Ytlljnfljcdljaaa.V
open Go.RowKit




end Go.Proofs.Ytlljnfljcdljaaa.V

namespace Go.Proofs.Ytlljnfljcdljaaa.V
open Go.RowKit

end Go.Proofs.Ytlljnfljcdljaaa.V

namespace Go.Proofs.Ytlljnfljcdljaaa.V
open Go.RowKit

theorem OwnM.caps {w : World} {B n cap : Nat} {a : Option Addr} {R : List (List Int)} (h : OwnM w B (.slice a n cap) R) : n ≤ cap ∧ cap ≤ maxLen := by
  obtain ⟨V, h1, h2, _⟩ := h
  obtain ⟨a', c', hv, k1, k2, _⟩ := own_form h2
  injection hv with e1 e2 e3
  subst e2 e3
  exact ⟨k1, k2⟩
/-- One row of an owned matrix, as a list of its own. -/
theorem OwnM.row {w : World} {B n cap : Nat} {a : Option Addr} {R : List (List Int)} (h : OwnM w B (.slice a n cap) R) (i : Nat) (hi : i < n) :
    ∃ g ra rc, a = some ⟨g, 0, none⟩ ∧ w.cell? ⟨g, i, none⟩ = some (.slice ra (R.getD i []).length rc) ∧ Own w B (.slice ra (R.getD i []).length rc) (R.getD i []) := by
  have hl := h.len
  obtain ⟨V, h1, h2, h3, h4, h5⟩ := h
  obtain ⟨a', c', hv, hc, hm, hg⟩ := own_form h2
  injection hv with e1 e2 e3
  subst e1 e2 e3
  obtain ⟨g, rfl, hB, hlt⟩ := hg (by omega)
  have hr := h3 i (by omega)
  obtain ⟨ra, rc, hrv, _⟩ := own_form hr
  rw [hrv] at hr
  refine ⟨g, ra, rc, rfl, ?_, hr⟩
  rw [World.ownsRow.cellAt h2 i (by omega), ← hrv]
  simp [show i < V.length by omega]
theorem ownM_lit1 (w : World) (B : Nat) (hB : B ≤ w.heap.size) {rv : Value} {l : List Int} (ho : Own w B rv l) : OwnM (w.alloc (.cells #[rv] 24)) B (.slice (some ⟨w.heap.size, 0, none⟩) 1 1) [l] := by
  refine ⟨[rv], rfl, World.ownsRow_lit w #[rv] 1 hB (by decide) rfl, fun i hi => ?_, fun i hi k hk => ?_, fun i j hi hj hne => ?_⟩
  · obtain rfl : i = 0 := by simp at hi; omega
    exact ho.below (b_alloc w _)
  · obtain rfl : i = 0 := by simp at hi; omega
    have := (own_lt ho hk).2
    intro e
    simp only [Value.ownBlock, Option.some.injEq] at e
    omega
  · simp at hi hj; omega
/-- A part of one row. -/
theorem mat_sub {w : World} {b off n : Nat} {R : List (List Int)} (h : Mat w (some ⟨b, off, none⟩) n R) (k : Nat) (hk : k < n) : Mat w (some ⟨b, off + k, none⟩) 1 [R.getD k []] := by
  obtain ⟨h1, h2, h3⟩ := h
  refine ⟨rfl, by decide, .inr ?_⟩
  rcases h3 with h3 | ⟨b', off', e, hlt, hc⟩
  · omega
  · injection e with e
    injection e with e1 e2
    subst e1 e2
    refine ⟨b, off + k, rfl, hlt, fun i hi => ?_⟩
    obtain rfl : i = 0 := by omega
    obtain ⟨ra, rc, hr, hI⟩ := hc k hk
    exact ⟨ra, rc, hr, hI⟩
/-- The weights to a node, one row for each number of arcs. -/
def M.wtM (A : Nat → Nat → Int) (n t k : Nat) : List (List Int) := M.mk k n fun s j => M.cpw A n s t j
theorem M.wt_row (A : Nat → Nat → Int) (n t k s : Nat) (h : s < k) : (M.wtM A n t k).getD s [] = (List.range n).map fun j => M.cpw A n s t j := M.mk_row _ _ _ _ h
theorem M.wt_next (R : List (List Int)) (n t s : Nat) : (M.mk 1 n (fun i j => M.dot [(List.range n).map fun j => M.cpw (M.ent R) n s t j] R i j n)).getD 0 [] = (List.range n).map fun j => M.cpw (M.ent R) n (s + 1) t j := by
  rw [M.mk_row _ _ _ _ (by omega)]
  refine List.map_congr_left fun j _ => ?_
  unfold M.dot
  refine M.sumN_congr fun u hu => ?_
  congr 1
  unfold M.ent
  simp [hu]


end Go.Proofs.Ytlljnfljcdljaaa.V

namespace Go.Proofs.Ytlljnfljcdljaaa
namespace M
theorem orbL_one (R : List (List Int)) (x : List Int) : orbL R x 1 = [x] := rfl
theorem orbRes_ok (R : List (List Int)) (x : List Int) (n : Int) : pre (orbRes R x n).1 (orbRes R x n).1.length ≤ 2000 ∧ (orbRes R x n).1.length ≤ 101 := by
  unfold orbRes
  split
  · next h =>
    obtain ⟨hs, hx, hl⟩ := orbCode_t h
    split
    · next h2 =>
      split
      · refine ⟨?_, by rw [orbL_len]; omega⟩
        have hv := (isVec_t hx).2.1
        have : ∀ k, pre (orbL R x (n.toNat + 1)) k ≤ 10 * k := by
          intro k
          unfold pre
          induction k with
          | zero => simp
          | succ k ih =>
            by_cases q : k < (orbL R x (n.toNat + 1)).length
            · rw [List.take_succ_eq_append_getElem q, List.map_append, List.sum_append]
              have hk : k < n.toNat + 1 := by rw [orbL_len] at q; exact q
              have : (orbL R x (n.toNat + 1))[k].length ≤ 10 := by
                have e : (orbL R x (n.toNat + 1))[k] = orb R x k := by
                  have := orbL_get (R := R) (x := x) hk
                  rw [List.getD_eq_getElem?_getD, List.getElem?_eq_getElem q] at this
                  exact this
                rw [e, orb_len hl]; omega
              simp only [List.map_cons, List.map_nil, List.sum_cons, List.sum_nil]
              omega
            · rw [List.take_of_length_le (by omega)]
              rw [List.take_of_length_le (by omega)] at ih
              omega
        have := this (orbL R x (n.toNat + 1)).length
        show pre (orbL R x (n.toNat + 1)) (orbL R x (n.toNat + 1)).length ≤ 2000
        rw [orbL_len] at this ⊢
        omega
      · simp [pre]
    · simp [pre]
  · simp [pre]
end M
namespace V
set_option maxRecDepth 100000
open Go.RowKit
theorem sq_parts7 {w : World} {a : Option Addr} {n : Nat} {R : List (List Int)} (h : Mat w a n R) (hs : M.sqB R = true) : Rect R n n ∧ 1 ≤ n ∧ n ≤ 10 ∧ ∀ i j, i < n → j < n → M.Sm 1000000 (M.ent R i j) := by
  have hq := sq_of h hs
  have e := (M.sq_sm hs).2.2
  rw [h.1] at e
  exact ⟨hq.2.1, hq.2.2.2.1, hq.2.2.2.2, e⟩
end V
end Go.Proofs.Ytlljnfljcdljaaa
