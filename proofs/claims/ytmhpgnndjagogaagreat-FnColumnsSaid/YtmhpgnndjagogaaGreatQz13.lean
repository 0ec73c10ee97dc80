/- Texts laid together: Eig, Img, Clo4, Clo5, Fix1. -/
import Derived.Test.YtmhpgnndjagogaaGreatQz12
import Derived.Test.YtmhpgnndjagogaaGreatQz7
import Derived.Test.YtmhpgnndjagogaaGreatQz6
import Derived.Test.YtmhpgnndjagogaaGreatQz9
import Derived.Test.YtmhpgnndjagogaaGreatQz3
import Derived.Test.YtmhpgnndjagogaaGreatQz4
set_option linter.unusedSimpArgs false
set_option linter.unusedVariables false
set_option linter.unusedSectionVars false
namespace Go.Proofs.YtmhpgnndjagogaaGreat
namespace M
def imgB (R : List (List Int)) (a b : Int) (x : List Int) : Bool := sqB R && isRat a b && isVec x && decide (x.length = R.length) && x.any fun v => decide (v ≠ -1000000000000000)
def imgL (R : List (List Int)) (a b : Int) (x : List Int) : List Int := applyM (shM R a b) x
def atMostB (y x : List Int) : Bool := (List.range y.length).all fun i => decide (y.getD i 0 ≤ x.getD i 0)
def eigB (R : List (List Int)) (a b : Int) (x : List Int) : Bool := imgB R a b x && decide (imgL R a b x = x)
def subB (R : List (List Int)) (a b : Int) (x : List Int) : Bool := imgB R a b x && atMostB (imgL R a b x) x
def eigY (R : List (List Int)) (b : Int) (x : List Int) (i : Nat) : Int := sumN R.length fun j => times (shf (ent R) 0 b i j) (x.getD j 0)
def eigZ (a : Int) (x : List Int) (i : Nat) : Int := times a (x.getD i 0)
/-- What the model's comparison has found after i nodes. -/
def cmpUp (R : List (List Int)) (a b : Int) (x : List Int) (i : Nat) : Bool := (List.range i).any fun k => decide (eigZ a x k < eigY R b x k)
def cmpLo (R : List (List Int)) (a b : Int) (x : List Int) (i : Nat) : Bool := (List.range i).any fun k => decide (eigY R b x k < eigZ a x k)
def cmpSome (x : List Int) (i : Nat) : Bool := (List.range i).any fun k => decide (x.getD k 0 ≠ -1000000000000000)
def cmpOk (R : List (List Int)) (a b : Int) (x : List Int) : Bool := sqB R && isRat a b && isVec x && decide (x.length = R.length)
def cmpE (R : List (List Int)) (a b : Int) (x : List Int) : Int :=
  if cmpOk R a b x then (if cmpUp R a b x x.length then 1 else if cmpSome x x.length then (if cmpLo R a b x x.length then -1 else 0) else 1) else 1
theorem any_next (i : Nat) (p : Nat → Bool) : (List.range (i + 1)).any p = ((List.range i).any p || p i) := by
  rw [List.range_succ, List.any_append]; simp
theorem sum_move {k : Nat} {f g : Nat → Int} {a : Int} (h : ∀ j, j < k → (f j = -1000000000000000 ∧ g j = -1000000000000000) ∨ (f j = g j + a ∧ -10000000000000 ≤ g j ∧ g j ≤ 10000000000000)) (ha : -1000000 ≤ a) (hb : a ≤ 1000000) :
    (sumN k f = -1000000000000000 ∧ sumN k g = -1000000000000000) ∨ (sumN k f = sumN k g + a ∧ -10000000000000 ≤ sumN k g ∧ sumN k g ≤ 10000000000000) := by
  induction k with
  | zero => exact .inl ⟨rfl, rfl⟩
  | succ k ih =>
    have ih := ih fun j hj => h j (by omega)
    have hk := h k (by omega)
    show (max (sumN k f) (f k) = _ ∧ max (sumN k g) (g k) = _) ∨ (max (sumN k f) (f k) = max (sumN k g) (g k) + a ∧ _ ≤ max (sumN k g) (g k) ∧ max (sumN k g) (g k) ≤ _)
    omega
section
variable {R : List (List Int)} {a b : Int} {x : List Int}
theorem cmpOk_t (h : cmpOk R a b x = true) : sqB R = true ∧ isRat a b = true ∧ isVec x = true ∧ x.length = R.length := by
  unfold cmpOk at h
  rw [Bool.and_eq_true, Bool.and_eq_true, Bool.and_eq_true, decide_eq_true_eq] at h
  exact ⟨h.1.1.1, h.1.1.2, h.1.2, h.2⟩
theorem imgB_cmp : imgB R a b x = (cmpOk R a b x && x.any fun v => decide (v ≠ -1000000000000000)) := rfl
theorem imgL_at (h : cmpOk R a b x = true) {i : Nat} (hi : i < R.length) : (imgL R a b x).getD i 0 = sumN R.length fun j => times (shf (ent R) a b i j) (x.getD j 0) := by
  obtain ⟨h1, h2, h3, h4⟩ := cmpOk_t h
  unfold imgL applyM
  rw [List.getD_eq_getElem?_getD, List.getElem?_map, sh_len, List.getElem?_range hi]
  show dotV _ _ i _ = _
  unfold dotV
  rw [h4]
  refine sumN_congr fun j hj => ?_
  rw [sh_ent R a b hi hj]
theorem imgL_len : (imgL R a b x).length = R.length := by unfold imgL applyM; rw [List.length_map, List.length_range, sh_len]
theorem cmp_at (h : cmpOk R a b x = true) {i : Nat} (hi : i < R.length) : (eigZ a x i < eigY R b x i ↔ x.getD i 0 < (imgL R a b x).getD i 0) ∧ (eigY R b x i < eigZ a x i ↔ (imgL R a b x).getD i 0 < x.getD i 0) := by
  rw [imgL_at h hi]
  obtain ⟨h1, h2, h3, h4⟩ := cmpOk_t h
  obtain ⟨n1, n2, hA⟩ := sq_sm h1
  obtain ⟨r1, r2, r3, r4, -⟩ := isRat_t h2
  have hx : ∀ j, j < R.length → x.getD j 0 = -1000000000000000 ∨ (-1000000 ≤ x.getD j 0 ∧ x.getD j 0 ≤ 1000000) := fun j hj => isVal_t ((isVec_t h3).2.2 j (by omega))
  have hn := near_rat h2
  have hn0 : Near 0 b := by unfold Near; omega
  have hm := sum_move (k := R.length) (f := fun j => times (shf (ent R) 0 b i j) (x.getD j 0)) (g := fun j => times (shf (ent R) a b i j) (x.getD j 0)) (a := a) (fun j hj => by
    show (times _ _ = _ ∧ times _ _ = _) ∨ (times _ _ = times _ _ + a ∧ _ ≤ times _ _ ∧ times _ _ ≤ _)
    by_cases e : ent R i j = -1000000000000000
    · left
      unfold shf times
      rw [if_pos e, if_pos e, if_pos (.inl rfl)]
      exact ⟨rfl, rfl⟩
    · rcases hx j hj with q | q
      · left
        unfold times
        rw [if_pos (.inr q), if_pos (.inr q)]
        exact ⟨rfl, rfl⟩
      · right
        obtain ⟨f1, f2, f3⟩ := shf_fin hn (hA i j hi hj) e
        obtain ⟨g1, g2, g3⟩ := shf_fin hn0 (hA i j hi hj) e
        unfold times
        rw [f1, g1, if_neg (by omega), if_neg (by omega)]
        omega) r1 r2
  have hxi := hx i hi
  unfold eigZ
  show (times a (x.getD i 0) < sumN R.length (fun j => times (shf (ent R) 0 b i j) (x.getD j 0)) ↔ _) ∧ (sumN R.length (fun j => times (shf (ent R) 0 b i j) (x.getD j 0)) < _ ↔ _)
  generalize sumN R.length (fun j => times (shf (ent R) 0 b i j) (x.getD j 0)) = s at *
  generalize sumN R.length (fun j => times (shf (ent R) a b i j) (x.getD j 0)) = t at *
  generalize x.getD i 0 = y at *
  unfold times
  by_cases e : y = -1000000000000000
  · rw [if_pos (.inr e)]; omega
  · rw [if_neg (by omega)]; omega
theorem some_eq : cmpSome x x.length = x.any fun v => decide (v ≠ -1000000000000000) := by
  unfold cmpSome
  rw [Bool.eq_iff_iff, List.any_eq_true, List.any_eq_true]
  constructor
  · rintro ⟨k, hk, h⟩
    have hk := List.mem_range.1 hk
    refine ⟨x[k], List.getElem_mem hk, ?_⟩
    simpa [hk] using h
  · rintro ⟨v, hv, h⟩
    obtain ⟨k, hk, rfl⟩ := List.mem_iff_getElem.1 hv
    exact ⟨k, List.mem_range.2 hk, by simpa [hk] using h⟩
theorem atMost_eq (h : cmpOk R a b x = true) : atMostB (imgL R a b x) x = !cmpUp R a b x x.length := by
  obtain ⟨-, -, -, h4⟩ := cmpOk_t h
  rw [Bool.eq_iff_iff, Bool.not_eq_true']
  unfold atMostB cmpUp
  rw [List.all_eq_true, List.any_eq_false, imgL_len]
  constructor
  · intro hh k hk
    have hk := List.mem_range.1 hk
    have := hh k (List.mem_range.2 (by omega))
    rw [decide_eq_true_eq] at this ⊢
    rw [(cmp_at h (i := k) (by omega)).1]; omega
  · intro hh k hk
    have hk := List.mem_range.1 hk
    have := hh k (List.mem_range.2 (by omega))
    rw [decide_eq_true_eq] at this ⊢
    rw [(cmp_at h (i := k) (by omega)).1] at this; omega
theorem same_eq (h : cmpOk R a b x = true) : decide (imgL R a b x = x) = (!cmpUp R a b x x.length && !cmpLo R a b x x.length) := by
  rw [← atMost_eq h]
  obtain ⟨-, -, -, h4⟩ := cmpOk_t h
  have hl := imgL_len (R := R) (a := a) (b := b) (x := x)
  rw [Bool.eq_iff_iff, Bool.and_eq_true, decide_eq_true_eq, Bool.not_eq_true']
  unfold cmpLo
  rw [List.any_eq_false]
  constructor
  · intro e
    refine ⟨?_, fun k hk => ?_⟩
    · unfold atMostB
      rw [List.all_eq_true]
      intro k hk
      rw [e]; simp
    · have hk := List.mem_range.1 hk
      rw [decide_eq_true_eq, (cmp_at h (i := k) (by omega)).2, e]; omega
  · rintro ⟨h1, h2⟩
    unfold atMostB at h1
    rw [List.all_eq_true, hl] at h1
    apply List.ext_getElem (by omega)
    intro k k1 k2
    have e1 := h1 k (List.mem_range.2 (by omega))
    have e2 := h2 k (List.mem_range.2 (by omega))
    rw [decide_eq_true_eq] at e1 e2
    rw [(cmp_at h (i := k) (by omega)).2] at e2
    have p1 : (imgL R a b x).getD k 0 = (imgL R a b x)[k] := by simp [k1]
    have p2 : x.getD k 0 = x[k] := by simp [k2]
    omega
theorem eig_cmp : eigB R a b x = decide (cmpE R a b x = 0) := by
  unfold eigB cmpE
  rw [imgB_cmp]
  by_cases h : cmpOk R a b x = true
  · rw [if_pos h, h, ← some_eq, same_eq h]
    cases cmpUp R a b x x.length <;> cases cmpSome x x.length <;> cases cmpLo R a b x x.length <;> rfl
  · rw [if_neg h]
    simp only [Bool.not_eq_true] at h
    rw [h]; rfl
theorem sub_cmp : subB R a b x = decide (cmpE R a b x ≤ 0) := by
  unfold subB cmpE
  rw [imgB_cmp]
  by_cases h : cmpOk R a b x = true
  · rw [if_pos h, h, ← some_eq, atMost_eq h]
    cases cmpUp R a b x x.length <;> cases cmpSome x x.length <;> cases cmpLo R a b x x.length <;> rfl
  · rw [if_neg h]
    simp only [Bool.not_eq_true] at h
    rw [h]; rfl
/-- A potential is a vector without Bottom that the image does not exceed. -/
theorem pot_img : isPotB R a b x = (imgB R a b x && (!(x.any fun v => decide (v = -1000000000000000)) && atMostB (imgL R a b x) x)) := by
  unfold isPotB holdsB
  rw [imgB_cmp]
  cases h1 : sqB R with
  | false => simp [cmpOk, h1]
  | true =>
    cases h2 : isRat a b with
    | false => simp [cmpOk, h1, h2]
    | true =>
      obtain ⟨n1, n2, -⟩ := sq_sm h1
      by_cases h4 : x.length = R.length
      · rw [decide_eq_true h4]
        have hl := imgL_len (R := R) (a := a) (b := b) (x := x)
        cases h3 : x.all isFin with
        | true =>
          have hf := List.all_eq_true.1 h3
          have hv : isVec x = true := by
            rw [isVec_all (by omega) (by omega)]
            exact List.all_eq_true.2 fun v hv => by unfold isVal; rw [hf v hv, Bool.or_true]
          have hok : cmpOk R a b x = true := by unfold cmpOk; rw [h1, h2, hv, decide_eq_true h4]; rfl
          have hne : ∀ v, v ∈ x → v ≠ -1000000000000000 := fun v hv e => by
            have := hf v hv
            simp [isFin] at this
            omega
          have e1 : (x.any fun v => decide (v ≠ -1000000000000000)) = true := by
            rw [List.any_eq_true]
            exact ⟨x[0]'(by omega), List.getElem_mem _, by rw [decide_eq_true_eq]; exact hne _ (List.getElem_mem _)⟩
          have e2 : (x.any fun v => decide (v = -1000000000000000)) = false := by
            rw [List.any_eq_false]
            intro v hv
            rw [decide_eq_true_eq]; exact hne v hv
          rw [hok, e1, e2]
          simp only [Bool.and_true, Bool.not_false, Bool.true_and]
          unfold atMostB
          rw [hl, Bool.eq_iff_iff, List.all_eq_true, List.all_eq_true]
          constructor
          · intro h i hi
            have hi' := List.mem_range.1 hi
            rw [imgL_at hok hi']; exact h i hi
          · intro h i hi
            have hi' := List.mem_range.1 hi
            rw [← imgL_at hok hi']; exact h i hi
        | false =>
          have : (isVec x && !(x.any fun v => decide (v = -1000000000000000))) = false := by
            cases hv : isVec x with
            | false => rfl
            | true =>
              rw [Bool.true_and, Bool.not_eq_false']
              rw [List.all_eq_false] at h3
              obtain ⟨v, hv1, hv2⟩ := h3
              rw [isVec_all (by omega) (by omega)] at hv
              have := List.all_eq_true.1 hv v hv1
              unfold isVal at this
              rw [Bool.or_eq_true, decide_eq_true_eq] at this
              rw [List.any_eq_true]
              exact ⟨v, hv1, by rw [decide_eq_true_eq]; rcases this with q | q
                                · exact q
                                · exact absurd q hv2⟩
          unfold cmpOk
          rw [h1, h2]
          cases h5 : isVec x with
          | false => simp
          | true =>
            rw [h5, Bool.true_and] at this
            rw [this]; simp
      · unfold cmpOk
        rw [decide_eq_false h4]; simp
end
end M
end Go.Proofs.YtmhpgnndjagogaaGreat

namespace Go.Proofs.YtmhpgnndjagogaaGreat
namespace M
theorem imgB_s {R : List (List Int)} {a b : Int} {x : List Int} (h : sqB R = false) : imgB R a b x = false := by unfold imgB; rw [h]; rfl
theorem imgB_r {R : List (List Int)} {a b : Int} {x : List Int} (h : isRat a b = false) : imgB R a b x = false := by unfold imgB; rw [h]; simp
theorem imgB_v {R : List (List Int)} {a b : Int} {x : List Int} (h : isVec x = false) : imgB R a b x = false := by unfold imgB; rw [h]; simp
theorem imgB_l {R : List (List Int)} {a b : Int} {x : List Int} (h : ¬ x.length = R.length) : imgB R a b x = false := by unfold imgB; rw [decide_eq_false h]; simp
def imgR (R : List (List Int)) (a b : Int) (x : List Int) : List Int := if imgB R a b x then imgL R a b x else []
theorem imgR_f {R : List (List Int)} {a b : Int} {x : List Int} (h : imgB R a b x = false) : imgR R a b x = [] := by unfold imgR; rw [h]; rfl
theorem imgR_t {R : List (List Int)} {a b : Int} {x : List Int} (h : imgB R a b x = true) : imgR R a b x = imgL R a b x := by unfold imgR; rw [h]; rfl
end M
namespace V
open Go.RowKit
theorem M.top_any {x : List Int} (hv : M.isVec x = true) : (x.any fun v => decide (v ≠ -1000000000000000)) = decide (M.topN (fun i => x.getD i 0) (x.length - 1) ≠ -1000000000000000) := by
  obtain ⟨v1, v2, v3⟩ := M.isVec_t hv
  rw [Bool.eq_iff_iff, List.any_eq_true, decide_eq_true_eq]
  constructor
  · rintro ⟨v, hm, hne⟩
    rw [decide_eq_true_eq] at hne
    obtain ⟨k, hk, rfl⟩ := List.mem_iff_getElem.1 hm
    have h1 := M.topN_ge (fun i => x.getD i 0) (x.length - 1) k (by omega)
    have h2 := M.isVal_t (v3 k hk)
    have e : x.getD k 0 = x[k] := by simp [hk]
    have h1 : x.getD k 0 ≤ _ := h1
    rw [e] at h1 h2
    omega
  · intro h
    obtain ⟨k, hk, e⟩ := M.topN_at (fun i => x.getD i 0) (x.length - 1)
    have hk' : k < x.length := by omega
    have e : _ = x.getD k 0 := e
    refine ⟨x[k], List.getElem_mem hk', ?_⟩
    rw [decide_eq_true_eq]
    rw [e] at h
    simpa [hk'] using h
set_option maxRecDepth 100000 in
set_option maxHeartbeats 400000 in
theorem isAtMost (a : Option Addr) (n cap : Nat) (y : List Int) (a' : Option Addr) (cap' : Nat) (x : List Int) (w : World) (h : Ints .i64 w a n y) (h' : Ints .i64 w a' n x) (hn : n ≤ 1000) :
    Calls Tryz.prog 79 #[.slice a n cap, .slice a' n cap'] w fun e w' => e = .returned (.bool (M.atMostB y x)) ∧ w = w' := by
  have HY := Lib.hid h
  have HXx := Lib.hid h'
  have HL := Lib.hid h.1
  clear h h'
  go_enter Tryz.func79, Tryz.ntmps79
  go_wp2
  go_loop [5, 6, 9] (fun _ _ i => ∃ k : Nat, k ≤ n ∧ i = .int .i64 k ∧ Hid (∀ i, i < k → y.getD i 0 ≤ x.getD i 0)) (fun _ _ i => n - (intOf i).toNat)
  case atStart => exact ⟨0, Nat.zero_le _, rfl, fun i hi => absurd hi (Nat.not_lt_zero i)⟩
  case round =>
    obtain ⟨k, hk, rfl, HK⟩ := hrel
    by_cases hlt : k < n
    · have hki : (k : Int) < (n : Int) := by omega
      obtain ⟨d1, d2, u, rfl, -, hu, cu⟩ := HY.out.at k hlt
      obtain ⟨d3, d4, v, rfl, -, hv, cv⟩ := HXx.out.at k hlt
      have HU := Lib.hid hu
      have HV := Lib.hid hv
      clear hu hv
      by_cases hgt : v < u
      · have HF : Hid (M.atMostB y x = false) := by
          show _ = _
          unfold M.atMostB
          cases e : (List.range y.length).all fun i => decide (y.getD i 0 ≤ x.getD i 0) with
          | false => rfl
          | true =>
            have := List.all_eq_true.1 e k (List.mem_range.2 (by rw [HL.out]; exact hlt))
            rw [decide_eq_true_eq, ← HU.out, ← HV.out] at this
            omega
        go_wp2
        go_ret
        exact ⟨retB HF.out.symm, rfl⟩
      · have HK2 : Hid (∀ i, i < k + 1 → y.getD i 0 ≤ x.getD i 0) := fun i hi => by
          by_cases e : i = k
          · subst e; rw [← HU.out, ← HV.out]; omega
          · exact HK.out i (by omega)
        have hgt2 : u ≤ v := by omega
        go_wp2
        go_round
        case rel => exact ⟨k + 1, by omega, by go_num, HK2⟩
        case measure => simp [intOf]; omega
    · obtain rfl : k = n := by omega
      have HF : Hid (M.atMostB y x = true) := by
        show _ = _
        unfold M.atMostB
        rw [List.all_eq_true]
        intro i hi
        rw [decide_eq_true_eq]
        exact HK.out i (by have := List.mem_range.1 hi; rw [HL.out] at this; exact this)
      go_wp2
      go_ret
      exact ⟨retB HF.out.symm, rfl⟩
set_option maxRecDepth 100000 in
set_option maxHeartbeats 2000000 in
theorem shiftedImage (a : Option Addr) (n cap : Nat) (R : List (List Int)) (num den : Int) (a' : Option Addr) (N cap' : Nat) (l : List Int) (w0 : World) (h : Mat w0 a n R) (h' : Ints .i64 w0 a' N l) :
    Calls Tryz.prog 77 #[.slice a n cap, .agg #[.int .i64 num, .int .i64 den], .slice a' N cap'] w0 fun e w' => ∃ b m c, e = .returned (.tuple #[.slice b m c, .bool (M.imgB R num den l)]) ∧ Own w' w0.heap.size (.slice b m c) (M.imgR R num den l) ∧ Below w0.heap.size w0 w' := by
  obtain ⟨w, hwd⟩ : ∃ w, w = w0.alloc (rbox num den) := ⟨_, rfl⟩
  have HX : Hid (Boxed w0 w num den) := by show Boxed _ _ _ _; rw [hwd]; exact boxed _ _ _
  have HA : Hid (Mat w a n R) := h.below HX.out.below
  have HI : Hid (Ints .i64 w a' N l) := h'.below HX.out.below
  have HL := Lib.hid h'.1
  have HZ := Lib.hid HX.out.size
  obtain ⟨c0, c1⟩ := HX.out.cells (Below.refl _ _)
  obtain ⟨bs, hs⟩ : ∃ b, b = M.sqB R := ⟨_, rfl⟩
  have HS := Lib.hid hs.symm
  cases bs with
  | false =>
    have HE : Hid (M.imgB R num den l = false) := M.imgB_s hs.symm
    clear h h' hs
    go_enter Tryz.func77, Tryz.ntmps77
    go_wp2_with fail
    simp only [← hwd] at *
    clear hwd
    refine (isSquare_b _ _ _ R _ false HS.out HA.out).mono ?_
    rintro e w' ⟨rfl, rfl⟩
    go_wp2
    go_ret2
    rw [HE.out]
    exact ⟨none, 0, 0, rfl, by rw [M.imgR_f HE.out]; exact own_nil _ _, HX.out.below⟩
  | true =>
    have hss := hs.symm
    obtain ⟨rR, n1, n2, hsm⟩ := sq_parts HA.out hss
    obtain ⟨br, hr⟩ : ∃ b, b = M.isRat num den := ⟨_, rfl⟩
    have HR := Lib.hid hr.symm
    have HRe := Lib.hid rR
    have HSm := Lib.hid hsm
    have hRl := HA.out.1
    have HRl := Lib.hid hRl
    cases br with
    | false =>
      have HE : Hid (M.imgB R num den l = false) := M.imgB_r hr.symm
      clear h h' hs hss rR hsm hr hRl
      go_enter Tryz.func77, Tryz.ntmps77
      go_wp2_with fail
      simp only [← hwd] at *
      clear hwd
      refine (isSquare_b _ _ _ R _ true HS.out HA.out).mono ?_
      rintro e w' ⟨rfl, rfl⟩
      go_wp2_with fail
      refine (isRatio_b _ _ false HR.out _).mono ?_
      rintro e w1 ⟨rfl, hb1⟩
      have HB1 := Lib.hid hb1
      have HI1 : Hid (Ints .i64 w1 a' N l) := HI.out.below hb1
      obtain ⟨p0, p1⟩ := HX.out.cells hb1
      clear hb1
      go_wp2
      go_ret2
      rw [HE.out]
      exact ⟨none, 0, 0, rfl, by rw [M.imgR_f HE.out]; exact own_nil _ _, HX.out.trans HB1.out⟩
    | true =>
      obtain ⟨bv, hv⟩ : ∃ b, b = M.isVec l := ⟨_, rfl⟩
      have HV := Lib.hid hv.symm
      cases bv with
      | false =>
        have HE : Hid (M.imgB R num den l = false) := M.imgB_v hv.symm
        clear h h' hs hss rR hsm hr hv hRl
        go_enter Tryz.func77, Tryz.ntmps77
        go_wp2_with fail
        simp only [← hwd] at *
        clear hwd
        refine (isSquare_b _ _ _ R _ true HS.out HA.out).mono ?_
        rintro e w' ⟨rfl, rfl⟩
        go_wp2_with fail
        refine (isRatio_b _ _ true HR.out _).mono ?_
        rintro e w1 ⟨rfl, hb1⟩
        have HB1 := Lib.hid hb1
        have HI1 : Hid (Ints .i64 w1 a' N l) := HI.out.below hb1
        obtain ⟨p0, p1⟩ := HX.out.cells hb1
        clear hb1
        go_wp2_with fail
        refine (isVector_b _ _ _ l _ false HV.out HI1.out).mono ?_
        rintro e w' ⟨rfl, rfl⟩
        go_wp2
        go_ret2
        rw [HE.out]
        exact ⟨none, 0, 0, rfl, by rw [M.imgR_f HE.out]; exact own_nil _ _, HX.out.trans HB1.out⟩
      | true =>
        by_cases hN : N = n
        · subst hN
          obtain ⟨v1, v2, v3⟩ := M.isVec_t hv.symm
          obtain ⟨t, ht⟩ : ∃ t, t = M.topN (fun i => l.getD i 0) (N - 1) := ⟨_, rfl⟩
          have HT := Lib.hid ht
          have hany : (l.any fun v => decide (v ≠ -1000000000000000)) = decide (t ≠ -1000000000000000) := by rw [M.top_any hv.symm, HL.out, ht]
          by_cases ht0 : t = -1000000000000000
          · have HE : Hid (M.imgB R num den l = false) := by show _ = _; rw [M.imgB_cmp, hany, ht0]; simp
            clear h h' hs hss rR hsm hr hv hRl ht hany v1 v2 v3
            subst ht0
            go_enter Tryz.func77, Tryz.ntmps77
            go_wp2_with fail
            simp only [← hwd] at *
            clear hwd
            refine (isSquare_b _ _ _ R _ true HS.out HA.out).mono ?_
            rintro e w' ⟨rfl, rfl⟩
            go_wp2_with fail
            refine (isRatio_b _ _ true HR.out _).mono ?_
            rintro e w1 ⟨rfl, hb1⟩
            have HB1 := Lib.hid hb1
            have HI1 : Hid (Ints .i64 w1 a' N l) := HI.out.below hb1
            obtain ⟨p0, p1⟩ := HX.out.cells hb1
            clear hb1
            go_wp2_with fail
            refine (isVector_b _ _ _ l _ true HV.out HI1.out).mono ?_
            rintro e w' ⟨rfl, rfl⟩
            go_wp2_with fail
            refine (slicesMax _ _ _ _ _ HI1.out n1).mono ?_
            rintro e w' ⟨rfl, rfl⟩
            rw [← HT.out]
            go_wp2
            go_ret2
            rw [HE.out]
            exact ⟨none, 0, 0, rfl, by rw [M.imgR_f HE.out]; exact own_nil _ _, HX.out.trans HB1.out⟩
          · have hE : M.imgB R num den l = true := by
              rw [M.imgB_cmp, hany, decide_eq_true ht0, Bool.and_true]
              unfold M.cmpOk
              rw [← hs, ← hr, ← hv, HL.out, hRl]
              simp
            have HE := Lib.hid hE
            have htb : (t == -1000000000000000) = false := by simpa using ht0
            have HSh : Hid (∀ i j, i < N → j < N → M.Sm 1000001000000 (M.shf (M.ent R) num den i j)) := fun i j hi hj => M.shf_sm (M.near_rat hr.symm) (hsm i j hi hj)
            have HB : Hid (∀ k, k < N → M.Big (l.getD k 0)) := fun k hk => M.big_val (v3 k (by rw [HL.out]; exact hk))
            have HM : Hid (∀ i k, i < N → k < N → M.Big (M.ent (M.mk N N (M.shf (M.ent R) num den)) i k)) := fun i k hi hk => by
              rw [M.ent_mk _ _ _ _ _ hi hk]; exact M.big_sm (HSh.out i k hi hk) (by omega)
            have HY : Hid (M.applyM (M.mk N N (M.shf (M.ent R) num den)) l = M.imgL R num den l) := by show _ = _; unfold M.imgL M.shM; rw [hRl]
            clear h h' hs hss rR hsm hr hv hRl ht hany v1 v2 v3 hE ht0
            go_enter Tryz.func77, Tryz.ntmps77
            go_wp2_with fail
            simp only [← hwd] at *
            clear hwd
            refine (isSquare_b _ _ _ R _ true HS.out HA.out).mono ?_
            rintro e w' ⟨rfl, rfl⟩
            go_wp2_with fail
            refine (isRatio_b _ _ true HR.out _).mono ?_
            rintro e w1 ⟨rfl, hb1⟩
            have HB1 := Lib.hid hb1
            have HI1 : Hid (Ints .i64 w1 a' N l) := HI.out.below hb1
            obtain ⟨p0, p1⟩ := HX.out.cells hb1
            clear hb1
            go_wp2_with fail
            refine (isVector_b _ _ _ l _ true HV.out HI1.out).mono ?_
            rintro e w' ⟨rfl, rfl⟩
            go_wp2_with fail
            refine (slicesMax _ _ _ _ _ HI1.out n1).mono ?_
            rintro e w' ⟨rfl, rfl⟩
            rw [← HT.out]
            go_wp2_with fail
            refine (shiftedBy _ _ _ R _ _ _ (HA.out.below HB1.out) HRe.out n1 n2 HSm.out (M.near_rat HR.out)).mono ?_
            rintro e w2 ⟨a2, cap2, rfl, hO, hb⟩
            have HO := Lib.hid hO
            have HB2 := Lib.hid (HB1.out.trans (hb.mono HB1.out.size))
            have HI2 : Hid (Ints .i64 w2 a' N l) := HI1.out.below hb
            clear hO hb
            go_wp2_with fail
            refine (timesColumn _ _ _ _ _ _ _ l _ HO.out.mat HI2.out (rect_mk _ _ _) HM.out HB.out n1 n2 n1 n2).mono ?_
            rintro e w3 ⟨b3, c3, rfl, hx, hb⟩
            rw [HY.out] at hx
            have HB3 := Lib.hid (HX.out.trans (HB2.out.trans (hb.mono HB2.out.size)))
            have HXx := Lib.hid (hx.mono (Nat.le_trans HX.out.below.size HB2.out.size))
            clear hx hb
            go_wp2
            go_ret2
            rw [HE.out]
            exact ⟨b3, N, c3, rfl, by rw [M.imgR_t HE.out]; exact HXx.out, HB3.out⟩
        · have HE : Hid (M.imgB R num den l = false) := M.imgB_l (fun k => hN (by rw [← HL.out, k, hRl]))
          have hne : ((N : Int) != (n : Int)) = true := by simp; omega
          have hne2 : ((N : Int) == (n : Int)) = false := by simp; omega
          have hne3 : (N == n) = false := by simpa using hN
          clear h h' hs hss rR hsm hr hv hRl
          go_enter Tryz.func77, Tryz.ntmps77
          go_wp2_with fail
          simp only [← hwd] at *
          clear hwd
          refine (isSquare_b _ _ _ R _ true HS.out HA.out).mono ?_
          rintro e w' ⟨rfl, rfl⟩
          go_wp2_with fail
          refine (isRatio_b _ _ true HR.out _).mono ?_
          rintro e w1 ⟨rfl, hb1⟩
          have HB1 := Lib.hid hb1
          have HI1 : Hid (Ints .i64 w1 a' N l) := HI.out.below hb1
          obtain ⟨p0, p1⟩ := HX.out.cells hb1
          clear hb1
          go_wp2_with fail
          refine (isVector_b _ _ _ l _ true HV.out HI1.out).mono ?_
          rintro e w' ⟨rfl, rfl⟩
          go_wp2
          go_ret2
          rw [HE.out]
          exact ⟨none, 0, 0, rfl, by rw [M.imgR_f HE.out]; exact own_nil _ _, HX.out.trans HB1.out⟩
end V
end Go.Proofs.YtmhpgnndjagogaaGreat

namespace Go.Proofs.YtmhpgnndjagogaaGreat.V
open Go.RowKit

set_option maxRecDepth 100000 in
set_option maxHeartbeats 400000 in
theorem sSame (a : Option Addr) (n cap : Nat) (l : List Int) (a' : Option Addr) (n' cap' : Nat) (l' : List Int) (w : World) (h : Ints .i64 w a n l) (h' : Ints .i64 w a' n' l') :
    Calls Tryz.prog 172 #[.slice a n cap, .slice a' n' cap'] w fun e w' => ∃ b, e = .returned (.bool b) ∧ Hid (b = decide (l = l')) ∧ ∃ q, w' = w.drewN q := by
  have HI := Lib.hid h
  have HI' := Lib.hid h'
  have HL := Lib.hid h.1
  have HL' := Lib.hid h'.1
  have hm := h.2.1
  unfold maxLen at hm
  clear h h'
  by_cases hn : n = n'
  · subst hn
    have hD0 : Hid (∀ i, i < 0 → l.getD i 0 = l'.getD i 0) := fun i hi => absurd hi (Nat.not_lt_zero i)
    go_enter Tryz.func172, Tryz.ntmps172
    go_wp2
    go_loopw [5] (fun i wr => ∃ k : Nat, k ≤ n ∧ i = .int .i64 k ∧ Hid (∀ i, i < k → l.getD i 0 = l'.getD i 0) ∧ ∃ q, wr = w.drewN q) (fun i _ => n - (intOf i).toNat)
    case atStart => exact ⟨0, Nat.zero_le _, rfl, hD0, 0, rfl⟩
    case round =>
      obtain ⟨k, hk, rfl, HD, q2, rfl⟩ := hrel
      clear hD0
      by_cases hlt : k < n
      · have hki : (k : Int) < (n : Int) := by omega
        obtain ⟨b, off, x, rfl, hd, hx, c1⟩ := HI.out.at k hlt
        obtain ⟨b', off', y, rfl, hd', hy, c2⟩ := HI'.out.at k hlt
        have HX := Lib.hid hx
        have HY := Lib.hid hy
        clear hx hy hd hd'
        by_cases e : x = y
        · have HD2 : Hid (∀ i, i < k + 1 → l.getD i 0 = l'.getD i 0) := fun i hi => by
            by_cases ei : i = k
            · subst ei; rw [← HX.out, ← HY.out, e]
            · exact HD.out i (by omega)
          subst e
          go_wp2
          go_quiet (fail)
          go_wp2
          go_roundw
          case rel => exact ⟨k + 1, by omega, by go_num, HD2, _, rfl⟩
          case measure => simp [intOf]; omega
        · have e2 : (x == y) = false := by simpa using e
          have e3 : (x != y) = true := by simpa using e
          have HF : Hid (l ≠ l') := fun he => e (by rw [HX.out, HY.out, he])
          go_wp2
          go_quiet (fail)
          go_wp2
          go_ret
          exact ⟨_, rfl, (decide_eq_false HF.out).symm, _, World.drewN_drewN _ _ _⟩
      · obtain rfl : k = n := by omega
        have HF : Hid (l = l') := by
          show l = l'
          apply List.ext_getElem
          · rw [HL.out, HL'.out]
          · intro i h1 h2
            have := HD.out i (by have := HL.out; omega)
            simpa [h1, h2] using this
        go_wp2
        go_ret
        exact ⟨_, rfl, (decide_eq_true HF.out).symm, _, rfl⟩
  · have e2 : (n == n') = false := by simpa using hn
    have e3 : ((n : Int) != (n' : Int)) = true := by simp; omega
    have HF : Hid (l ≠ l') := fun he => hn (by rw [← HL.out, ← HL'.out, he])
    go_enter Tryz.func172, Tryz.ntmps172
    go_wp2
    go_ret
    exact ⟨_, rfl, (decide_eq_false HF.out).symm, 0, rfl⟩

set_option maxRecDepth 100000 in
set_option maxHeartbeats 1000000 in
theorem sSameM (a : Option Addr) (n cap : Nat) (R : List (List Int)) (a' : Option Addr) (cap' : Nat) (R' : List (List Int)) (w : World) (h : Mat w a n R) (h' : Mat w a' n R') (hn : n ≤ 1000) :
    Calls Tryz.prog 136 #[.slice a n cap, .slice a' n cap'] w fun e w' => e = .returned (.bool (decide (R = R'))) ∧ ∃ q, w' = w.drewN q := by
  have HA := Lib.hid h
  have HA' := Lib.hid h'
  have HL := Lib.hid h.1
  have HL' := Lib.hid h'.1
  clear h h'
  have hD0 : Hid (∀ i, i < 0 → R.getD i [] = R'.getD i []) := fun i hi => absurd hi (Nat.not_lt_zero i)
  go_enter Tryz.func136, Tryz.ntmps136
  go_wp2
  go_loopw [5] (fun i wr => ∃ k : Nat, k ≤ n ∧ i = .int .i64 k ∧ Hid (∀ i, i < k → R.getD i [] = R'.getD i []) ∧ ∃ q, wr = w.drewN q) (fun i _ => n - (intOf i).toNat)
  case atStart => exact ⟨0, Nat.zero_le _, rfl, hD0, 0, rfl⟩
  case round =>
    obtain ⟨k, hk, rfl, HD, q2, rfl⟩ := hrel
    clear hD0
    by_cases hlt : k < n
    · have hki : (k : Int) < (n : Int) := by omega
      obtain ⟨b, off, ra, rc, L, l, rfl, hb, hl, hc, hI⟩ := HA.out.at k hlt
      obtain ⟨b', off', ra', rc', L', l', rfl, hb', hl', hc', hI'⟩ := HA'.out.at k hlt
      have HI := Lib.hid hI
      have HI' := Lib.hid hI'
      have HX := Lib.hid hl
      have HY := Lib.hid hl'
      obtain ⟨z, hz⟩ : ∃ z, z = decide (l = l') := ⟨_, rfl⟩
      have HZ := Lib.hid hz
      have HC : ∀ q3, Calls Tryz.prog 172 #[.slice ra L rc, .slice ra' L' rc'] (w.drewN q3) fun e w' => e = .returned (.bool z) ∧ ∃ q, w' = (w.drewN q3).drewN q := by
        intro q3
        refine (sSame _ _ _ _ _ _ _ _ _ (HI.out.below (b_draws w _)) (HI'.out.below (b_draws w _))).mono ?_
        rintro e w' ⟨b, rfl, hb, hq⟩
        exact ⟨by rw [HZ.out, hb.out], hq⟩
      clear hl hl' hI hI' hz hb hb'
      cases z with
      | true =>
        have HD2 : Hid (∀ i, i < k + 1 → R.getD i [] = R'.getD i []) := fun i hi => by
          by_cases ei : i = k
          · subst ei; rw [← HX.out, ← HY.out]; exact of_decide_eq_true HZ.out.symm
          · exact HD.out i (by omega)
        go_wp2
        go_quiet ((go_at_call 172; exact q_more (HC _)))
        go_wp2
        go_roundw
        case rel => exact ⟨k + 1, by omega, by go_num, HD2, _, rfl⟩
        case measure => simp [intOf]; omega
      | false =>
        have HF : Hid (R ≠ R') := fun he => of_decide_eq_false HZ.out.symm (by rw [HX.out, HY.out, he])
        go_wp2
        go_quiet ((go_at_call 172; exact q_more (HC _)))
        go_wp2
        go_ret
        exact ⟨retB (decide_eq_false HF.out).symm, _, World.drewN_drewN _ _ _⟩
    · obtain rfl : k = n := by omega
      have HF : Hid (R = R') := by
        show R = R'
        apply List.ext_getElem
        · rw [HL.out, HL'.out]
        · intro i h1 h2
          have := HD.out i (by have := HL.out; omega)
          simpa [h1, h2] using this
      go_wp2
      go_ret
      exact ⟨retB (decide_eq_true HF.out).symm, _, rfl⟩

set_option maxRecDepth 100000 in
set_option maxHeartbeats 1000000 in
theorem sStar (a : Option Addr) (n cap : Nat) (R : List (List Int)) (w : World) (h : Sq w a n R) :
    Calls Tryz.prog 71 #[.slice a n cap] w fun e w' => ∃ b c, e = .returned (.tuple #[.slice b n c, .bool (M.noPos (M.ent R) n)]) ∧ OwnM w' w.heap.size (.slice b n c) (M.bmM R n n) ∧ Below w.heap.size w w' := by
  have HS := Lib.hid h
  obtain ⟨n1, n2⟩ := h.2.2.2
  have HSm : Hid (∀ i j, i < n → j < n → M.Sm 1000001000000 (M.ent R i j)) := h.2.2.1
  have HRB : Hid (∀ i j, i < n → j < n → M.Big (M.ent R i j)) := fun i j hi hj => M.big_sm (HSm.out i j hi hj) (by omega)
  have HBB : Hid (∀ t, t ≤ n → ∀ i j, i < n → j < n → M.Big (M.ent (M.bmM R n t) i j)) := fun t ht i j hi hj => M.bm_big HSm.out (by omega) hi hj
  clear h
  go_enter Tryz.func71, Tryz.ntmps71
  go_wp2_with (go_at_call 133; refine (sUnit n _ (by omega)).mono ?_; rintro e w1 ⟨a2, cap2, rfl, hO, hb⟩; rw [M.bm_zero R] at hO; have HO0 := Lib.hid hO; have HB0 := Lib.hid hb; clear hO hb)
  go_loopw [5, 6] (fun o i wr => ∃ (k : Nat) (b : Option Addr) (c : Nat), k ≤ n ∧ i = .int .i64 k ∧ o = .slice b n c ∧ OwnM wr w.heap.size (.slice b n c) (M.bmM R n k) ∧ Below w.heap.size w wr) (fun _ i _ => n - (intOf i).toNat)
  case atStart => exact ⟨0, _, _, Nat.zero_le _, rfl, rfl, HO0.out, HB0.out⟩
  case round =>
    obtain ⟨k, b, c, hk, rfl, rfl, hO, hb⟩ := hrel
    obtain ⟨wo, rfl⟩ : ∃ x, x = wr := ⟨_, rfl⟩
    have HO := Lib.hid hO
    have HB := Lib.hid hb
    clear hO hb HO0 HB0
    by_cases hlt : k < n
    · have hki : (k : Int) < (n : Int) := by omega
      go_wp2_with fail
      refine (sUnit n _ (by omega)).mono ?_
      rintro e w2 ⟨a3, cap3, rfl, hU, hb2⟩
      have HU2 := Lib.hid hU
      have HB2 := Lib.hid (bnext HB.out hb2)
      have HO2 := Lib.hid (HO.out.below hb2)
      clear hU hb2 HO HB
      go_wp2_with fail
      refine (sMultiplyB _ _ _ n R _ _ n (M.bmM R n k) _ (HS.out.1.below HB2.out) HO2.out.mat HS.out.2.1 (rect_mk _ _ _) HRB.out (HBB.out k (by omega)) n1 n2 n1 n2 n1 n2).mono ?_
      rintro e w3 ⟨a4, cap4, rfl, hP, hb3⟩
      have HP3 := Lib.hid hP
      have HB3 := Lib.hid (bnext HB2.out hb3)
      have HU3 := Lib.hid (HU2.out.below hb3)
      clear hP hb3 HO2 HU2
      go_wp2_with fail
      refine (sAddB _ _ _ _ _ _ _ n _ HU3.out.mat HP3.out.mat (rect_mk _ _ _) (rect_mk _ _ _) n1 n2 n1 n2).mono ?_
      rintro e w4 ⟨a5, cap5, rfl, hN, hb4⟩
      rw [M.bm_step] at hN
      have HN4 := Lib.hid (hN.mono HB3.out.size)
      have HB4 := Lib.hid (bnext HB3.out hb4)
      clear hN hb4 HU3 HP3
      go_wp2
      go_roundw
      case rel => exact ⟨k + 1, _, _, by omega, by go_num, rfl, HN4.out, HB4.out⟩
      case measure => simp [intOf]; omega
    · obtain rfl : k = n := by omega
      go_wp2_with fail
      refine (sUnit k _ (by omega)).mono ?_
      rintro e w2 ⟨a3, cap3, rfl, hU, hb2⟩
      have HU2 := Lib.hid hU
      have HB2 := Lib.hid (bnext HB.out hb2)
      have HO2 := Lib.hid (HO.out.below hb2)
      clear hU hb2 HO HB
      go_wp2_with fail
      refine (sMultiplyB _ _ _ k R _ _ k (M.bmM R k k) _ (HS.out.1.below HB2.out) HO2.out.mat HS.out.2.1 (rect_mk _ _ _) HRB.out (HBB.out k (by omega)) n1 n2 n1 n2 n1 n2).mono ?_
      rintro e w3 ⟨a4, cap4, rfl, hP, hb3⟩
      have HP3 := Lib.hid hP
      have HB3 := Lib.hid (bnext HB2.out hb3)
      have HU3 := Lib.hid (HU2.out.below hb3)
      have HO3 := Lib.hid (HO2.out.below hb3)
      clear hP hb3 HO2 HU2
      go_wp2_with fail
      refine (sAddB _ _ _ _ _ _ _ k _ HU3.out.mat HP3.out.mat (rect_mk _ _ _) (rect_mk _ _ _) n1 n2 n1 n2).mono ?_
      rintro e w4 ⟨a5, cap5, rfl, hN, hb4⟩
      rw [M.bm_step] at hN
      have HN4 := Lib.hid hN
      have HB4 := Lib.hid (bnext HB3.out hb4)
      have HO4 := Lib.hid (HO3.out.below hb4)
      clear hN hb4 HU3 HP3 HO3
      go_wp2_with fail
      refine (sSameM _ _ _ _ _ _ _ _ HN4.out.mat HO4.out.mat (by omega)).mono ?_
      rintro e w5 ⟨rfl, q, rfl⟩
      rw [M.bm_same n2 HSm.out]
      go_wp2
      go_ret2
      exact ⟨_, _, rfl, HO4.out.below (b_draws _ _), below_drewN HB4.out _⟩
end Go.Proofs.YtmhpgnndjagogaaGreat.V

namespace Go.Proofs.YtmhpgnndjagogaaGreat.V
open Go.RowKit



end Go.Proofs.YtmhpgnndjagogaaGreat.V

namespace Go.Proofs.YtmhpgnndjagogaaGreat.V
open Go.RowKit

/-- What the least fixed point of a matrix and a vector that fit is. -/
def M.lfpL (R : List (List Int)) (n : Nat) (l : List Int) : List Int × Int := if M.noPos (M.ent R) n then (if M.isVec (M.applyM (M.starM R n) l) then (M.applyM (M.starM R n) l, 0) else ([], 3)) else ([], 5)
set_option maxRecDepth 100000 in
set_option maxHeartbeats 1000000 in
theorem leastFixedPoint (a : Option Addr) (n cap : Nat) (R : List (List Int)) (a' : Option Addr) (cap' : Nat) (l : List Int) (w : World) (h : Sq w a n R) (h' : Ints .i64 w a' n l) (hlb : ∀ k, k < n → M.Big (l.getD k 0)) :
    Calls Tryz.prog 68 #[.slice a n cap, .slice a' n cap'] w (VRes (M.lfpL R n l) w) := by
  have HQ := Lib.hid h
  have HI := Lib.hid h'
  have HSm := Lib.hid h.2.2.1
  obtain ⟨-, -, -, n1, n2⟩ := h
  have HLB := Lib.hid hlb
  clear hlb h'
  obtain ⟨r, hr⟩ : ∃ r, r = M.starL R n := ⟨_, rfl⟩
  have HC : Calls Tryz.prog 110 #[.slice a n cap] w (CPost r w) := by rw [hr]; exact starOf _ _ _ _ _ HQ.out
  by_cases hp : M.noPos (M.ent R) n = true
  · have hr2 : r = (M.starM R n, true) := by rw [hr]; unfold M.starL; rw [hp]; rfl
    have HSB : Hid (∀ i j, i < n → j < n → M.Big (M.ent (M.starM R n) i j)) := fun i j hi hj => M.star_big n2 HSm.out hp hi hj
    obtain ⟨b, hb⟩ : ∃ b, b = M.isVec (M.applyM (M.starM R n) l) := ⟨_, rfl⟩
    have HM := Lib.hid hb.symm
    have HE : Hid (M.lfpL R n l = if b then (M.applyM (M.starM R n) l, 0) else ([], 3)) := by
      show _ = _; rw [hb]; unfold M.lfpL; rw [hp]; rfl
    clear hr hp hb
    subst hr2
    cases b with
    | true =>
      go_enter Tryz.func68, Tryz.ntmps68
      go_wp2_with fail
      refine HC.mono ?_
      rintro e w1 ⟨a2, m, cap2, rfl, hO, hb⟩
      obtain rfl : m = n := by have := hO.len; simpa [M.starM] using this
      have HO := Lib.hid hO
      have HB := Lib.hid hb
      clear hO hb
      go_wp2_with fail
      refine (timesColumn _ _ _ _ _ _ _ l _ HO.out.mat (HI.out.below HB.out) (rect_mk _ _ _) HSB.out HLB.out n1 n2 n1 n2).mono ?_
      rintro e w2 ⟨b3, c3, rfl, hx, hb⟩
      have HX := Lib.hid (hx.mono HB.out.size)
      have HB2 := Lib.hid (bnext HB.out hb)
      clear hx hb
      go_wp2_with fail
      refine (checkedVector_t _ _ _ _ _ HM.out HX.out.ints').mono ?_
      rintro e w' ⟨rfl, rfl⟩
      go_wp2
      go_ret2
      rw [HE.out]
      exact ⟨_, _, _, rfl, HX.out, HB2.out⟩
    | false =>
      go_enter Tryz.func68, Tryz.ntmps68
      go_wp2_with fail
      refine HC.mono ?_
      rintro e w1 ⟨a2, m, cap2, rfl, hO, hb⟩
      obtain rfl : m = n := by have := hO.len; simpa [M.starM] using this
      have HO := Lib.hid hO
      have HB := Lib.hid hb
      clear hO hb
      go_wp2_with fail
      refine (timesColumn _ _ _ _ _ _ _ l _ HO.out.mat (HI.out.below HB.out) (rect_mk _ _ _) HSB.out HLB.out n1 n2 n1 n2).mono ?_
      rintro e w2 ⟨b3, c3, rfl, hx, hb⟩
      have HX := Lib.hid (hx.mono HB.out.size)
      have HB2 := Lib.hid (bnext HB.out hb)
      clear hx hb
      go_wp2_with fail
      refine (checkedVector_f _ _ _ _ _ HM.out HX.out.ints').mono ?_
      rintro e w' ⟨rfl, rfl⟩
      go_wp2
      go_ret2
      exact VRes.nil HE.out HB2.out
  · simp only [Bool.not_eq_true] at hp
    have hr2 : r = ([], false) := by rw [hr]; unfold M.starL; rw [hp]; rfl
    have HE : Hid (M.lfpL R n l = ([], 5)) := by
      show _ = _; unfold M.lfpL; rw [hp]; rfl
    clear hr hp
    subst hr2
    go_enter Tryz.func68, Tryz.ntmps68
    go_wp2_with (go_at_call 110; refine HC.mono ?_; rintro e w1 ⟨a2, m, cap2, rfl, hO, hb⟩; have HB := Lib.hid hb; clear hO hb)
    go_ret2
    exact VRes.nil HE.out HB.out

end Go.Proofs.YtmhpgnndjagogaaGreat.V
