/- Texts laid together: Eig, Img, Img2. -/
import Derived.Test.YtlljnfljcdljaaaQa7
import Derived.Test.YtlljnfljcdljaaaQa6
import Derived.Test.YtlljnfljcdljaaaQa8
set_option linter.unusedSimpArgs false
set_option linter.unusedVariables false
set_option linter.unusedSectionVars false
namespace Go.Proofs.Ytlljnfljcdljaaa
namespace M
def imgB (R : List (List Int)) (a b : Int) (x : List Int) : Bool := sqB R && isRat a b && isVec x && decide (x.length = R.length) && x.any fun v => decide (v ≠ -1000000000000000)
def imgL (R : List (List Int)) (a b : Int) (x : List Int) : List Int := applyM (shM R a b) x
def atMostB (y x : List Int) : Bool := (List.range y.length).all fun i => decide (y.getD i 0 ≤ x.getD i 0)
def eigB (R : List (List Int)) (a b : Int) (x : List Int) : Bool := imgB R a b x && decide (imgL R a b x = x)
def subB (R : List (List Int)) (a b : Int) (x : List Int) : Bool := imgB R a b x && atMostB (imgL R a b x) x
def eigY (R : List (List Int)) (b : Int) (x : List Int) (i : Nat) : Int := sumN R.length fun j => times (shf (ent R) 0 b i j) (x.getD j 0)
def eigZ (a : Int) (x : List Int) (i : Nat) : Int := times a (x.getD i 0)
/-- What the model's comparison has found after i nodes. -/
def cmpUp (R : List (List Int)) (a b : Int) (x : List Int) (i : Nat) : Bool := (List.range i).any fun k => decide (eigZ a x k < eigY R b x k)
def cmpLo (R : List (List Int)) (a b : Int) (x : List Int) (i : Nat) : Bool := (List.range i).any fun k => decide (eigY R b x k < eigZ a x k)
def cmpSome (x : List Int) (i : Nat) : Bool := (List.range i).any fun k => decide (x.getD k 0 ≠ -1000000000000000)
def cmpOk (R : List (List Int)) (a b : Int) (x : List Int) : Bool := sqB R && isRat a b && isVec x && decide (x.length = R.length)
def cmpE (R : List (List Int)) (a b : Int) (x : List Int) : Int :=
  if cmpOk R a b x then (if cmpUp R a b x x.length then 1 else if cmpSome x x.length then (if cmpLo R a b x x.length then -1 else 0) else 1) else 1
theorem any_next (i : Nat) (p : Nat → Bool) : (List.range (i + 1)).any p = ((List.range i).any p || p i) := by
  rw [List.range_succ, List.any_append]; simp
theorem sum_move {k : Nat} {f g : Nat → Int} {a : Int} (h : ∀ j, j < k → (f j = -1000000000000000 ∧ g j = -1000000000000000) ∨ (f j = g j + a ∧ -10000000000000 ≤ g j ∧ g j ≤ 10000000000000)) (ha : -1000000 ≤ a) (hb : a ≤ 1000000) :
    (sumN k f = -1000000000000000 ∧ sumN k g = -1000000000000000) ∨ (sumN k f = sumN k g + a ∧ -10000000000000 ≤ sumN k g ∧ sumN k g ≤ 10000000000000) := by
  induction k with
  | zero => exact .inl ⟨rfl, rfl⟩
  | succ k ih =>
    have ih := ih fun j hj => h j (by omega)
    have hk := h k (by omega)
    show (max (sumN k f) (f k) = _ ∧ max (sumN k g) (g k) = _) ∨ (max (sumN k f) (f k) = max (sumN k g) (g k) + a ∧ _ ≤ max (sumN k g) (g k) ∧ max (sumN k g) (g k) ≤ _)
    omega
section
variable {R : List (List Int)} {a b : Int} {x : List Int}
theorem cmpOk_t (h : cmpOk R a b x = true) : sqB R = true ∧ isRat a b = true ∧ isVec x = true ∧ x.length = R.length := by
  unfold cmpOk at h
  rw [Bool.and_eq_true, Bool.and_eq_true, Bool.and_eq_true, decide_eq_true_eq] at h
  exact ⟨h.1.1.1, h.1.1.2, h.1.2, h.2⟩
theorem imgB_cmp : imgB R a b x = (cmpOk R a b x && x.any fun v => decide (v ≠ -1000000000000000)) := rfl
theorem imgL_at (h : cmpOk R a b x = true) {i : Nat} (hi : i < R.length) : (imgL R a b x).getD i 0 = sumN R.length fun j => times (shf (ent R) a b i j) (x.getD j 0) := by
  obtain ⟨h1, h2, h3, h4⟩ := cmpOk_t h
  unfold imgL applyM
  rw [List.getD_eq_getElem?_getD, List.getElem?_map, sh_len, List.getElem?_range hi]
  show dotV _ _ i _ = _
  unfold dotV
  rw [h4]
  refine sumN_congr fun j hj => ?_
  rw [sh_ent R a b hi hj]
theorem imgL_len : (imgL R a b x).length = R.length := by unfold imgL applyM; rw [List.length_map, List.length_range, sh_len]
theorem cmp_at (h : cmpOk R a b x = true) {i : Nat} (hi : i < R.length) : (eigZ a x i < eigY R b x i ↔ x.getD i 0 < (imgL R a b x).getD i 0) ∧ (eigY R b x i < eigZ a x i ↔ (imgL R a b x).getD i 0 < x.getD i 0) := by
  rw [imgL_at h hi]
  obtain ⟨h1, h2, h3, h4⟩ := cmpOk_t h
  obtain ⟨n1, n2, hA⟩ := sq_sm h1
  obtain ⟨r1, r2, r3, r4, -⟩ := isRat_t h2
  have hx : ∀ j, j < R.length → x.getD j 0 = -1000000000000000 ∨ (-1000000 ≤ x.getD j 0 ∧ x.getD j 0 ≤ 1000000) := fun j hj => isVal_t ((isVec_t h3).2.2 j (by omega))
  have hn := near_rat h2
  have hn0 : Near 0 b := by unfold Near; omega
  have hm := sum_move (k := R.length) (f := fun j => times (shf (ent R) 0 b i j) (x.getD j 0)) (g := fun j => times (shf (ent R) a b i j) (x.getD j 0)) (a := a) (fun j hj => by
    show (times _ _ = _ ∧ times _ _ = _) ∨ (times _ _ = times _ _ + a ∧ _ ≤ times _ _ ∧ times _ _ ≤ _)
    by_cases e : ent R i j = -1000000000000000
    · left
      unfold shf times
      rw [if_pos e, if_pos e, if_pos (.inl rfl)]
      exact ⟨rfl, rfl⟩
    · rcases hx j hj with q | q
      · left
        unfold times
        rw [if_pos (.inr q), if_pos (.inr q)]
        exact ⟨rfl, rfl⟩
      · right
        obtain ⟨f1, f2, f3⟩ := shf_fin hn (hA i j hi hj) e
        obtain ⟨g1, g2, g3⟩ := shf_fin hn0 (hA i j hi hj) e
        unfold times
        rw [f1, g1, if_neg (by omega), if_neg (by omega)]
        omega) r1 r2
  have hxi := hx i hi
  unfold eigZ
  show (times a (x.getD i 0) < sumN R.length (fun j => times (shf (ent R) 0 b i j) (x.getD j 0)) ↔ _) ∧ (sumN R.length (fun j => times (shf (ent R) 0 b i j) (x.getD j 0)) < _ ↔ _)
  generalize sumN R.length (fun j => times (shf (ent R) 0 b i j) (x.getD j 0)) = s at *
  generalize sumN R.length (fun j => times (shf (ent R) a b i j) (x.getD j 0)) = t at *
  generalize x.getD i 0 = y at *
  unfold times
  by_cases e : y = -1000000000000000
  · rw [if_pos (.inr e)]; omega
  · rw [if_neg (by omega)]; omega
theorem some_eq : cmpSome x x.length = x.any fun v => decide (v ≠ -1000000000000000) := by
  unfold cmpSome
  rw [Bool.eq_iff_iff, List.any_eq_true, List.any_eq_true]
  constructor
  · rintro ⟨k, hk, h⟩
    have hk := List.mem_range.1 hk
    refine ⟨x[k], List.getElem_mem hk, ?_⟩
    simpa [hk] using h
  · rintro ⟨v, hv, h⟩
    obtain ⟨k, hk, rfl⟩ := List.mem_iff_getElem.1 hv
    exact ⟨k, List.mem_range.2 hk, by simpa [hk] using h⟩
theorem atMost_eq (h : cmpOk R a b x = true) : atMostB (imgL R a b x) x = !cmpUp R a b x x.length := by
  obtain ⟨-, -, -, h4⟩ := cmpOk_t h
  rw [Bool.eq_iff_iff, Bool.not_eq_true']
  unfold atMostB cmpUp
  rw [List.all_eq_true, List.any_eq_false, imgL_len]
  constructor
  · intro hh k hk
    have hk := List.mem_range.1 hk
    have := hh k (List.mem_range.2 (by omega))
    rw [decide_eq_true_eq] at this ⊢
    rw [(cmp_at h (i := k) (by omega)).1]; omega
  · intro hh k hk
    have hk := List.mem_range.1 hk
    have := hh k (List.mem_range.2 (by omega))
    rw [decide_eq_true_eq] at this ⊢
    rw [(cmp_at h (i := k) (by omega)).1] at this; omega
theorem same_eq (h : cmpOk R a b x = true) : decide (imgL R a b x = x) = (!cmpUp R a b x x.length && !cmpLo R a b x x.length) := by
  rw [← atMost_eq h]
  obtain ⟨-, -, -, h4⟩ := cmpOk_t h
  have hl := imgL_len (R := R) (a := a) (b := b) (x := x)
  rw [Bool.eq_iff_iff, Bool.and_eq_true, decide_eq_true_eq, Bool.not_eq_true']
  unfold cmpLo
  rw [List.any_eq_false]
  constructor
  · intro e
    refine ⟨?_, fun k hk => ?_⟩
    · unfold atMostB
      rw [List.all_eq_true]
      intro k hk
      rw [e]; simp
    · have hk := List.mem_range.1 hk
      rw [decide_eq_true_eq, (cmp_at h (i := k) (by omega)).2, e]; omega
  · rintro ⟨h1, h2⟩
    unfold atMostB at h1
    rw [List.all_eq_true, hl] at h1
    apply List.ext_getElem (by omega)
    intro k k1 k2
    have e1 := h1 k (List.mem_range.2 (by omega))
    have e2 := h2 k (List.mem_range.2 (by omega))
    rw [decide_eq_true_eq] at e1 e2
    rw [(cmp_at h (i := k) (by omega)).2] at e2
    have p1 : (imgL R a b x).getD k 0 = (imgL R a b x)[k] := by simp [k1]
    have p2 : x.getD k 0 = x[k] := by simp [k2]
    omega
theorem eig_cmp : eigB R a b x = decide (cmpE R a b x = 0) := by
  unfold eigB cmpE
  rw [imgB_cmp]
  by_cases h : cmpOk R a b x = true
  · rw [if_pos h, h, ← some_eq, same_eq h]
    cases cmpUp R a b x x.length <;> cases cmpSome x x.length <;> cases cmpLo R a b x x.length <;> rfl
  · rw [if_neg h]
    simp only [Bool.not_eq_true] at h
    rw [h]; rfl
theorem sub_cmp : subB R a b x = decide (cmpE R a b x ≤ 0) := by
  unfold subB cmpE
  rw [imgB_cmp]
  by_cases h : cmpOk R a b x = true
  · rw [if_pos h, h, ← some_eq, atMost_eq h]
    cases cmpUp R a b x x.length <;> cases cmpSome x x.length <;> cases cmpLo R a b x x.length <;> rfl
  · rw [if_neg h]
    simp only [Bool.not_eq_true] at h
    rw [h]; rfl
/-- A potential is a vector without Bottom that the image does not exceed. -/
theorem pot_img : isPotB R a b x = (imgB R a b x && (!(x.any fun v => decide (v = -1000000000000000)) && atMostB (imgL R a b x) x)) := by
  unfold isPotB holdsB
  rw [imgB_cmp]
  cases h1 : sqB R with
  | false => simp [cmpOk, h1]
  | true =>
    cases h2 : isRat a b with
    | false => simp [cmpOk, h1, h2]
    | true =>
      obtain ⟨n1, n2, -⟩ := sq_sm h1
      by_cases h4 : x.length = R.length
      · rw [decide_eq_true h4]
        have hl := imgL_len (R := R) (a := a) (b := b) (x := x)
        cases h3 : x.all isFin with
        | true =>
          have hf := List.all_eq_true.1 h3
          have hv : isVec x = true := by
            rw [isVec_all (by omega) (by omega)]
            exact List.all_eq_true.2 fun v hv => by unfold isVal; rw [hf v hv, Bool.or_true]
          have hok : cmpOk R a b x = true := by unfold cmpOk; rw [h1, h2, hv, decide_eq_true h4]; rfl
          have hne : ∀ v, v ∈ x → v ≠ -1000000000000000 := fun v hv e => by
            have := hf v hv
            simp [isFin] at this
            omega
          have e1 : (x.any fun v => decide (v ≠ -1000000000000000)) = true := by
            rw [List.any_eq_true]
            exact ⟨x[0]'(by omega), List.getElem_mem _, by rw [decide_eq_true_eq]; exact hne _ (List.getElem_mem _)⟩
          have e2 : (x.any fun v => decide (v = -1000000000000000)) = false := by
            rw [List.any_eq_false]
            intro v hv
            rw [decide_eq_true_eq]; exact hne v hv
          rw [hok, e1, e2]
          simp only [Bool.and_true, Bool.not_false, Bool.true_and]
          unfold atMostB
          rw [hl, Bool.eq_iff_iff, List.all_eq_true, List.all_eq_true]
          constructor
          · intro h i hi
            have hi' := List.mem_range.1 hi
            rw [imgL_at hok hi']; exact h i hi
          · intro h i hi
            have hi' := List.mem_range.1 hi
            rw [← imgL_at hok hi']; exact h i hi
        | false =>
          have : (isVec x && !(x.any fun v => decide (v = -1000000000000000))) = false := by
            cases hv : isVec x with
            | false => rfl
            | true =>
              rw [Bool.true_and, Bool.not_eq_false']
              rw [List.all_eq_false] at h3
              obtain ⟨v, hv1, hv2⟩ := h3
              rw [isVec_all (by omega) (by omega)] at hv
              have := List.all_eq_true.1 hv v hv1
              unfold isVal at this
              rw [Bool.or_eq_true, decide_eq_true_eq] at this
              rw [List.any_eq_true]
              exact ⟨v, hv1, by rw [decide_eq_true_eq]; rcases this with q | q
                                · exact q
                                · exact absurd q hv2⟩
          unfold cmpOk
          rw [h1, h2]
          cases h5 : isVec x with
          | false => simp
          | true =>
            rw [h5, Bool.true_and] at this
            rw [this]; simp
      · unfold cmpOk
        rw [decide_eq_false h4]; simp
end
end M
end Go.Proofs.Ytlljnfljcdljaaa

namespace Go.Proofs.Ytlljnfljcdljaaa
namespace M
theorem imgB_s {R : List (List Int)} {a b : Int} {x : List Int} (h : sqB R = false) : imgB R a b x = false := by unfold imgB; rw [h]; rfl
theorem imgB_r {R : List (List Int)} {a b : Int} {x : List Int} (h : isRat a b = false) : imgB R a b x = false := by unfold imgB; rw [h]; simp
theorem imgB_v {R : List (List Int)} {a b : Int} {x : List Int} (h : isVec x = false) : imgB R a b x = false := by unfold imgB; rw [h]; simp
theorem imgB_l {R : List (List Int)} {a b : Int} {x : List Int} (h : ¬ x.length = R.length) : imgB R a b x = false := by unfold imgB; rw [decide_eq_false h]; simp
def imgR (R : List (List Int)) (a b : Int) (x : List Int) : List Int := if imgB R a b x then imgL R a b x else []
theorem imgR_f {R : List (List Int)} {a b : Int} {x : List Int} (h : imgB R a b x = false) : imgR R a b x = [] := by unfold imgR; rw [h]; rfl
theorem imgR_t {R : List (List Int)} {a b : Int} {x : List Int} (h : imgB R a b x = true) : imgR R a b x = imgL R a b x := by unfold imgR; rw [h]; rfl
end M
namespace V
open Go.RowKit
theorem M.top_any {x : List Int} (hv : M.isVec x = true) : (x.any fun v => decide (v ≠ -1000000000000000)) = decide (M.topN (fun i => x.getD i 0) (x.length - 1) ≠ -1000000000000000) := by
  obtain ⟨v1, v2, v3⟩ := M.isVec_t hv
  rw [Bool.eq_iff_iff, List.any_eq_true, decide_eq_true_eq]
  constructor
  · rintro ⟨v, hm, hne⟩
    rw [decide_eq_true_eq] at hne
    obtain ⟨k, hk, rfl⟩ := List.mem_iff_getElem.1 hm
    have h1 := M.topN_ge (fun i => x.getD i 0) (x.length - 1) k (by omega)
    have h2 := M.isVal_t (v3 k hk)
    have e : x.getD k 0 = x[k] := by simp [hk]
    have h1 : x.getD k 0 ≤ _ := h1
    rw [e] at h1 h2
    omega
  · intro h
    obtain ⟨k, hk, e⟩ := M.topN_at (fun i => x.getD i 0) (x.length - 1)
    have hk' : k < x.length := by omega
    have e : _ = x.getD k 0 := e
    refine ⟨x[k], List.getElem_mem hk', ?_⟩
    rw [decide_eq_true_eq]
    rw [e] at h
    simpa [hk'] using h
end V
end Go.Proofs.Ytlljnfljcdljaaa

namespace Go.Proofs.Ytlljnfljcdljaaa
namespace V
open Go.RowKit
theorem M.ext_at {l l' : List Int} {n : Nat} (h1 : l.length = n) (h2 : l'.length = n) (h : ∀ i, i < n → l.getD i 0 = l'.getD i 0) : l = l' := by
  apply List.ext_getElem (by omega)
  intro k k1 k2
  have := h k (by omega)
  simpa [k1, k2] using this
set_option maxRecDepth 100000 in
set_option maxHeartbeats 400000 in
theorem slicesEqual (a : Option Addr) (n cap : Nat) (y : List Int) (a' : Option Addr) (cap' : Nat) (x : List Int) (w : World) (h : Ints .i64 w a n y) (h' : Ints .i64 w a' n x) (hn : n ≤ 1000) :
    Calls Try.prog 78 #[.slice a n cap, .slice a' n cap'] w fun e w' => e = .returned (.bool (decide (y = x))) ∧ ∃ q, w' = w.drewN q := by
  have HY := Lib.hid h
  have HXx := Lib.hid h'
  have HL := Lib.hid h.1
  have HL' := Lib.hid h'.1
  clear h h'
  go_enter Try.func78, Try.ntmps78
  go_wp2
  go_loopw [5, 13] (fun _ i wr => ∃ k : Nat, k ≤ n ∧ i = .int .i64 k ∧ Hid (∀ i, i < k → y.getD i 0 = x.getD i 0) ∧ ∃ q, wr = w.drewN q) (fun _ i _ => n - (intOf i).toNat)
  case atStart => exact ⟨0, Nat.zero_le _, rfl, fun i hi => absurd hi (Nat.not_lt_zero i), 0, rfl⟩
  case round =>
    obtain ⟨k, hk, rfl, HK, q, rfl⟩ := hrel
    by_cases hlt : k < n
    · have hki : (k : Int) < (n : Int) := by omega
      obtain ⟨d1, d2, u, rfl, -, hu, cu⟩ := HY.out.at k hlt
      obtain ⟨d3, d4, v, rfl, -, hv, cv⟩ := HXx.out.at k hlt
      have HU := Lib.hid hu
      have HV := Lib.hid hv
      clear hu hv
      by_cases hgt : u = v
      · have HK2 : Hid (∀ i, i < k + 1 → y.getD i 0 = x.getD i 0) := fun i hi => by
          by_cases e : i = k
          · subst e; rw [← HU.out, ← HV.out]; exact hgt
          · exact HK.out i (by omega)
        have hb : (u != v) = false := by simp [hgt]
        clear hgt
        go_wp2
        go_quiet (fail)
        go_wp2
        go_roundw
        case rel => exact ⟨k + 1, by omega, by go_num, HK2, _, rfl⟩
        case measure => simp [intOf]; omega
      · have HF : Hid (decide (y = x) = false) := decide_eq_false fun e => hgt (by rw [HU.out, HV.out, e])
        have hb : (u != v) = true := by simpa using hgt
        go_wp2
        go_quiet (fail)
        go_wp2
        go_ret
        exact ⟨retB HF.out.symm, _, World.drewN_drewN _ _ _⟩
    · obtain rfl : k = n := by omega
      have HF : Hid (decide (y = x) = true) := decide_eq_true (M.ext_at HL.out HL'.out HK.out)
      go_wp2
      go_ret
      exact ⟨retB HF.out.symm, _, rfl⟩
end V
end Go.Proofs.Ytlljnfljcdljaaa
