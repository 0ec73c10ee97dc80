/- Texts laid together: Col, Pot3, Dlf. -/
import Derived.Test.YtmcihaihbnnblaaGreatQz8
import Derived.Test.YtmcihaihbnnblaaGreatQz17
import Derived.Test.YtmcihaihbnnblaaGreatQz20
import Derived.Test.YtmcihaihbnnblaaGreatQz14
import Derived.Test.YtmcihaihbnnblaaGreatQz7
import Derived.Lib.SliceRun
import Derived.Laws.IdiomCopy
set_option linter.unusedSimpArgs false
set_option linter.unusedVariables false
set_option linter.unusedSectionVars false
namespace Go.Proofs.YtmcihaihbnnblaaGreat
namespace M
/-- From a critical node on, and towards one, all is critical. -/
theorem crN_rch {R : List (List Int)} {n r c : Nat} (hn : R.length = n) (h : Rch (ent (crM R)) n r c) (hc : crN R c = true) : crN R r = true := by
  obtain ⟨s, f, h0, hs, hlt, harc⟩ := h
  cases s with
  | zero => rw [← h0, hs]; exact hc
  | succ s =>
    have h1 := harc 0 (by omega)
    have l0 := hlt 0 (by omega)
    have l1 := hlt 1 (by omega)
    subst hn
    unfold crM at h1
    rw [ent_mk _ _ _ _ _ l1 l0] at h1
    unfold crF at h1
    unfold crN
    rw [← h0]
    refine List.any_eq_true.2 ⟨f 1, List.mem_range.2 l1, ?_⟩
    cases e : crB R (f 0) (f 1) with
    | true => rfl
    | false => rw [e] at h1; exact absurd rfl h1
theorem crComps_pos {R : List (List Int)} (h1 : sqB R = true) (h2 : hasCyc (ent R) R.length = true) : 1 ≤ (crComps R).length := by
  obtain ⟨q1, q2, q3, q4⟩ := best_cyc h1 h2
  have hcr := crit_cyc h1 h2 q1
  rw [decide_eq_true q2] at hcr
  obtain ⟨-, hnod, -, -⟩ := crCycB_t q1
  have hall := List.all_eq_true.1 hcr.symm 0 (List.mem_range.2 (by omega))
  have hc := vx_lt hnod (k := 0) (by omega)
  have ht := vx_lt hnod (k := (0 + 1) % (bestCyc R).length) (Nat.mod_lt _ (by omega))
  have hcn : crN R (vx (bestCyc R) 0) = true := List.any_eq_true.2 ⟨_, List.mem_range.2 ht, hall⟩
  generalize vx (bestCyc R) 0 = c at *
  obtain ⟨r1, r2, r3⟩ := rep_t (A := ent (crM R)) hc
  have hrc := (relB_t.1 r2).2
  have hrn := crN_rch rfl hrc hcn
  have he := compL_eq r2
  have hrr : repN (ent (crM R)) R.length (repN (ent (crM R)) R.length c) = repN (ent (crM R)) R.length c := by
    show ((compL (ent (crM R)) R.length (repN (ent (crM R)) R.length c)).getD 0 0).toNat = _
    rw [← he]; rfl
  have hm : compL (ent (crM R)) R.length (repN (ent (crM R)) R.length c) ∈ crComps R := by
    refine List.mem_filter.2 ⟨mem_compsP.2 ⟨_, r1, hrr, rfl⟩, ?_⟩
    have : vx (compL (ent (crM R)) R.length (repN (ent (crM R)) R.length c)) 0 = repN (ent (crM R)) R.length c := hrr
    rw [this]
    exact hrn
  exact List.length_pos_of_mem hm
theorem comps_up (A : Nat → Nat → Int) (n m : Nat) : (compsP A n m).Pairwise (fun x y => vx x 0 < vx y 0) ∧ ∀ l, l ∈ compsP A n m → vx l 0 < m := by
  refine ⟨?_, fun l hl => ?_⟩
  · induction m with
    | zero => exact List.Pairwise.nil
    | succ m ih =>
      rw [compsP_next]
      refine List.pairwise_append.2 ⟨ih, ?_, fun x hx y hy => ?_⟩
      · split
        · exact List.pairwise_singleton ..
        · exact List.Pairwise.nil
      · obtain ⟨v, hv, hr, rfl⟩ := mem_compsP.1 hx
        split at hy
        · next h =>
          rw [List.mem_singleton.1 hy]
          have e1 : vx (compL A n v) 0 = v := hr
          have e2 : vx (compL A n m) 0 = m := h
          omega
        · exact absurd hy List.not_mem_nil
  · obtain ⟨v, hv, hr, rfl⟩ := mem_compsP.1 hl
    have e1 : vx (compL A n v) 0 = v := hr
    omega
theorem rect_stc (S : Nat → Nat → Int) (n : Nat) : (stcM S n).length = n ∧ ∀ c, c < n → ((stcM S n).getD c []).length = n := ⟨by unfold stcM; simp, fun c hc => by unfold stcM; exact mk_rowlen _ _ _ _ hc⟩
def colIds (R : List (List Int)) : List Nat := (crComps R).map fun l => vx l 0
theorem colIds_up (R : List (List Int)) : (colIds R).Pairwise (fun x y => x < y) := by
  unfold colIds
  rw [List.pairwise_map]
  exact List.Pairwise.filter _ (comps_up _ _ _).1
theorem colIds_lt {R : List (List Int)} {i : Nat} (h : i ∈ colIds R) : i < R.length := by
  obtain ⟨l, hl, rfl⟩ := List.mem_map.1 h
  exact (comps_up _ _ _).2 l (List.mem_filter.1 hl).1
/-- The columns. -/
def colsL (R : List (List Int)) : List (List Int) := (colIds R).map fun i => (stcM (crS R) R.length).getD i []
def colsRes (R : List (List Int)) : List (List Int) × Int := if crCode R = 0 then (if (colsL R).all isVec then (colsL R, 0) else ([], 3)) else ([], crCode R)
theorem cols_row {R : List (List Int)} {i : Nat} (h : i < R.length) : ((stcM (crS R) R.length).getD i []).length = R.length := by
  unfold stcM
  exact mk_rowlen _ _ _ _ h
theorem colsL_len (R : List (List Int)) : (colsL R).length = (crComps R).length := by unfold colsL colIds; simp
theorem crComps_len (R : List (List Int)) : (crComps R).length ≤ R.length := by
  unfold crComps
  have h1 := List.length_filter_le (fun l => crN R (vx l 0)) (compsL (ent (crM R)) R.length)
  have h2 := compsP_len (ent (crM R)) R.length R.length
  unfold compsL at h1 ⊢
  omega
theorem cols_at {R : List (List Int)} {k : Nat} (h : k < (colsL R).length) : ((colsL R).getD k []).length = R.length := by
  unfold colsL at h ⊢
  rw [List.getD_eq_getElem?_getD, List.getElem?_eq_getElem h, Option.getD_some, List.getElem_map]
  exact cols_row (colIds_lt (List.getElem_mem _))
theorem cols_mat {R : List (List Int)} (h1 : sqB R = true) (h2 : hasCyc (ent R) R.length = true) : isMat (colsL R) = (colsL R).all isVec := by
  obtain ⟨n1, n2, -⟩ := sq_sm h1
  have hp := crComps_pos h1 h2
  have hl := colsL_len R
  have hm := crComps_len R
  unfold isMat
  rw [decide_eq_true (show 1 ≤ (colsL R).length by omega), decide_eq_true (show (colsL R).length ≤ 10 by omega), Bool.true_and, Bool.true_and]
  have hw : wid (colsL R) = R.length := cols_at (k := 0) (by omega)
  rw [hw]
  apply Bool.eq_iff_iff.2
  rw [List.all_eq_true, List.all_eq_true]
  refine ⟨fun h x hx => ?_, fun h x hx => ?_⟩
  · have := h x hx; rw [Bool.and_eq_true] at this; exact this.1
  · rw [Bool.and_eq_true]
    refine ⟨h x hx, ?_⟩
    obtain ⟨k, hk, e⟩ := List.mem_iff_getElem.1 hx
    have := cols_at hk
    rw [List.getD_eq_getElem?_getD, List.getElem?_eq_getElem hk, Option.getD_some, e] at this
    exact decide_eq_true this
theorem col_at {R : List (List Int)} {n k : Nat} (hn : R.length = n) (hk : k < (crComps R).length) : ∃ c : Nat, c < n ∧ 1 ≤ ((crComps R).getD k []).length ∧ ((crComps R).getD k []).getD 0 0 = (c : Int) ∧ (colsL R).getD k [] = (stcM (crS R) n).getD c [] ∧ (colIds R).take (k + 1) = (colIds R).take k ++ [c] := by
  subst hn
  have hm : (crComps R).getD k [] ∈ crComps R := by rw [List.getD_eq_getElem?_getD, List.getElem?_eq_getElem hk]; exact List.getElem_mem hk
  have hg : (crComps R).getD k [] = (crComps R)[k] := by rw [List.getD_eq_getElem?_getD, List.getElem?_eq_getElem hk]; rfl
  have hi : k < (colIds R).length := by unfold colIds; simpa using hk
  have hc : (colIds R)[k] = vx ((crComps R).getD k []) 0 := by rw [hg]; exact List.getElem_map _
  refine ⟨vx ((crComps R).getD k []) 0, (comps_up _ _ _).2 _ (List.mem_filter.1 hm).1, ?_, ?_, ?_, ?_⟩
  · obtain ⟨v, hv, -, e⟩ := mem_compsP.1 (List.mem_filter.1 hm).1
    rw [e]; exact compL_pos hv
  · obtain ⟨v, hv, -, e⟩ := mem_compsP.1 (List.mem_filter.1 hm).1
    rw [e]
    have := (rep_t (A := ent (crM R)) hv).2.2
    exact this
  · rw [← hc]
    unfold colsL
    rw [List.getD_eq_getElem?_getD, List.getElem?_map, List.getElem?_eq_getElem hi]
    rfl
  · rw [← hc, List.take_add_one, List.getElem?_eq_getElem hi]
    rfl
theorem takeL_next {L : List (List Int)} {k : Nat} (h : k < L.length) : L.take (k + 1) = L.take k ++ [L.getD k []] := by
  rw [List.take_add_one, List.getElem?_eq_getElem h, List.getD_eq_getElem?_getD, List.getElem?_eq_getElem h]
  rfl
theorem all_take {L : List (List Int)} {k : Nat} (h : k < L.length) (hv : isVec (L.getD k []) = false) : L.all isVec = false := by
  apply Bool.eq_false_iff.2
  intro e
  have := List.all_eq_true.1 e (L.getD k []) (by rw [List.getD_eq_getElem?_getD, List.getElem?_eq_getElem h]; exact List.getElem_mem h)
  rw [hv] at this
  exact Bool.false_ne_true this
theorem all_take_next {L : List (List Int)} {k : Nat} (h : k < L.length) (hv : isVec (L.getD k []) = true) (ha : (L.take k).all isVec = true) : (L.take (k + 1)).all isVec = true := by
  rw [takeL_next h, List.all_append, ha, List.all_cons, hv]
  rfl
theorem colsRes_ok (R : List (List Int)) : okM (colsRes R).1 := by
  unfold colsRes
  by_cases h : crCode R = 0
  · rw [if_pos h]
    obtain ⟨h1, h2⟩ := cr_code h
    by_cases hv : (colsL R).all isVec = true
    · rw [if_pos hv]; right; rw [cols_mat h1 h2]; exact hv
    · rw [if_neg hv]; exact .inl rfl
  · rw [if_neg h]; exact .inl rfl
end M
end Go.Proofs.YtmcihaihbnnblaaGreat

namespace Go.Proofs.YtmcihaihbnnblaaGreat
namespace M
theorem apply_at (R : List (List Int)) (l : List Int) {i : Nat} (hi : i < R.length) : (applyM R l).getD i 0 = dotV R l i l.length := by
  unfold applyM
  rw [List.getD_eq_getElem?_getD, List.getElem?_map, List.getElem?_range hi]; rfl
theorem isPotB_of {R : List (List Int)} {a b : Int} {x : List Int} (hs : sqB R = true) (hr : isRat a b = true) (hl : x.length = R.length) (hf : x.all isFin = true) :
    isPotB R a b x = (List.range R.length).all fun i => decide ((applyM (mk R.length R.length (shf (ent R) a b)) x).getD i 0 ≤ x.getD i 0) := by
  unfold isPotB holdsB
  rw [hs, hr, hf, decide_eq_true hl]
  have e : ∀ i, i < R.length → (applyM (mk R.length R.length (shf (ent R) a b)) x).getD i 0 = sumN R.length fun j => times (shf (ent R) a b i j) (x.getD j 0) := fun i hi => by
    rw [apply_at _ _ (by rw [mk_length]; exact hi), hl]
    unfold dotV
    exact sumN_congr fun j hj => by rw [ent_mk _ _ _ _ _ hi hj]
  simp only [Bool.true_and]
  rw [Bool.eq_iff_iff, List.all_eq_true, List.all_eq_true]
  constructor
  · intro h i hi; rw [e i (List.mem_range.1 hi)]; exact h i hi
  · intro h i hi; rw [← e i (List.mem_range.1 hi)]; exact h i hi
theorem isPotB_no {R : List (List Int)} {a b : Int} {x : List Int} (h : ¬ (x.length = R.length ∧ x.all isFin = true)) : isPotB R a b x = false := by
  unfold isPotB holdsB
  by_cases h1 : x.length = R.length
  · have h2 : x.all isFin = false := by
      cases e : x.all isFin with
      | false => rfl
      | true => exact absurd ⟨h1, e⟩ h
    rw [h2]; simp
  · rw [decide_eq_false h1]; simp
end M
namespace V
open Go.RowKit
set_option maxRecDepth 100000 in
set_option maxHeartbeats 400000 in
theorem indexI (a : Option Addr) (n cap : Nat) (l : List Int) (x : Int) (w : World) (h : Ints .i64 w a n l) :
    Calls Tryz.prog 182 #[.slice a n cap, .int .i64 x] w fun e w' => ∃ k : Int, e = .returned (.int .i64 k) ∧ (0 ≤ k ↔ x ∈ l) ∧ w = w' := by
  obtain ⟨hl, hm, hr⟩ := h
  unfold maxLen at hm
  have HL := Lib.hid hl
  clear hl
  go_enter Tryz.func182, Tryz.ntmps182
  go_wp2
  go_loop [5, 8] (fun _ i => ∃ k : Nat, k ≤ n ∧ i = .int .i64 k ∧ Hid (∀ i, i < k → l.getD i 0 ≠ x)) (fun _ i => n - (intOf i).toNat)
  case atStart => exact ⟨0, Nat.zero_le _, rfl, fun i hi => absurd hi (Nat.not_lt_zero i)⟩
  case round =>
    obtain ⟨k, hk, rfl, HK⟩ := hrel
    by_cases hlt : k < n
    · have hki : (k : Int) < (n : Int) := by omega
      rcases hr with h0 | ⟨b, off, rfl, hbl, hc⟩
      · omega
      · have hck := hc k hlt
        obtain ⟨y, hy⟩ : ∃ y, y = l.getD k 0 := ⟨_, rfl⟩
        rw [← hy] at hck
        have HY := Lib.hid hy
        clear hc hy
        by_cases hxy : x = y
        · have HM : Hid (x ∈ l) := by
            show _ ∈ _
            rw [hxy, HY.out]
            have hkl : k < l.length := by have := HL.out; omega
            rw [List.getD_eq_getElem?_getD, List.getElem?_eq_getElem hkl]
            exact List.getElem_mem hkl
          subst hxy
          go_wp2
          go_ret
          exact ⟨_, rfl, ⟨fun _ => HM.out, fun _ => by omega⟩, rfl⟩
        · have hxy2 : (x == y) = false := by simpa using hxy
          have HK2 : Hid (∀ i, i < k + 1 → l.getD i 0 ≠ x) := fun i hi => by
            by_cases e : i = k
            · subst e; rw [← HY.out]; exact fun e => hxy e.symm
            · exact HK.out i (by omega)
          go_wp2
          go_round
          case rel => exact ⟨k + 1, by omega, by go_num, HK2⟩
          case measure => simp [intOf]; omega
    · obtain rfl : k = n := by omega
      have HN : Hid (¬ x ∈ l) := fun hm => by
        obtain ⟨i, hi, rfl⟩ := List.mem_iff_getElem.1 hm
        have := HK.out i (by have := HL.out; omega)
        rw [List.getD_eq_getElem?_getD, List.getElem?_eq_getElem hi] at this
        exact this rfl
      clear hr
      go_wp2
      go_ret
      exact ⟨_, rfl, ⟨fun h => by omega, fun h => absurd h HN.out⟩, rfl⟩
set_option maxRecDepth 100000 in
set_option maxHeartbeats 400000 in
theorem containsI (a : Option Addr) (n cap : Nat) (l : List Int) (x : Int) (b : Bool) (w : World) (h : Ints .i64 w a n l) (hb : b = true ↔ x ∈ l) :
    Calls Tryz.prog 108 #[.slice a n cap, .int .i64 x] w fun e w' => e = .returned (.bool b) ∧ w = w' := by
  have HI := Lib.hid h
  have HB := Lib.hid hb
  clear h hb
  go_enter Tryz.func108, Tryz.ntmps108
  go_wp2_with fail
  refine (indexI _ _ _ l _ _ HI.out).mono ?_
  rintro e w' ⟨k, rfl, hk, rfl⟩
  have HK : Hid (decide (0 ≤ k) = b) := by
    show _ = _
    rw [Bool.eq_iff_iff, decide_eq_true_eq, hk, HB.out]
  clear hk
  go_wp2
  go_ret
  exact ⟨retB HK.out, rfl⟩
theorem vec_fin {l : List Int} (hv : M.isVec l = true) {b : Bool} (hb : l.all M.isFin = b) : (!b) = true ↔ (-1000000000000000 : Int) ∈ l := by
  subst hb
  rw [Bool.not_eq_true', ← Bool.not_eq_true, List.all_eq_true]
  constructor
  · intro h
    apply Classical.byContradiction
    intro hn
    apply h
    intro x hx
    obtain ⟨i, hi, rfl⟩ := List.mem_iff_getElem.1 hx
    have := M.isVal_t ((M.isVec_t hv).2.2 i hi)
    simp only [List.getD_eq_getElem?_getD, List.getElem?_eq_getElem hi, Option.getD_some] at this
    rcases this with e | e
    · rw [e] at hx; exact absurd hx hn
    · simp [M.isFin]; omega
  · intro h k
    have := k _ h
    exact absurd this (by decide)
end V
end Go.Proofs.YtmcihaihbnnblaaGreat

namespace Go.Proofs.YtmcihaihbnnblaaGreat
namespace M
def okArc (P : Nat → Nat → Int) (x : List Int) (i k : Nat) : Prop := P i k = -1000000000000000 ∨ P i k + x.getD k 0 ≤ x.getD i 0
theorem holdsB_of {R : List (List Int)} {a b : Int} {x : List Int} (hl : x.length = R.length) (hf : x.all isFin = true) :
    holdsB R a b x = true ↔ ∀ i, i < R.length → ∀ k, k < R.length → okArc (shf (ent R) a b) x i k := by
  unfold holdsB
  rw [hf, decide_eq_true hl]
  simp only [Bool.true_and, Bool.and_true, List.all_eq_true, List.mem_range, decide_eq_true_eq]
  have hfin : ∀ k, k < R.length → -1000000 ≤ x.getD k 0 ∧ x.getD k 0 ≤ 1000000 := fun k hk => by
    have hk' : k < x.length := by omega
    have := List.all_eq_true.1 hf x[k] (List.getElem_mem hk')
    rw [List.getD_eq_getElem?_getD, List.getElem?_eq_getElem hk']
    exact isFin_t this
  have ht : ∀ i k, k < R.length → times (shf (ent R) a b i k) (x.getD k 0) = if shf (ent R) a b i k = -1000000000000000 then -1000000000000000 else shf (ent R) a b i k + x.getD k 0 := fun i k hk => by
    have := hfin k hk
    unfold times
    by_cases e : shf (ent R) a b i k = -1000000000000000
    · rw [if_pos (.inl e), if_pos e]
    · rw [if_neg (by rintro (h | h) <;> omega), if_neg e]
  constructor
  · intro h i hi k hk
    have h1 := sum_ge (f := fun j => times (shf (ent R) a b i j) (x.getD j 0)) hk
    have h2 := h i hi
    have h1 : times (shf (ent R) a b i k) (x.getD k 0) ≤ _ := h1
    rw [ht i k hk] at h1
    by_cases e : shf (ent R) a b i k = -1000000000000000
    · exact .inl e
    · rw [if_neg e] at h1; exact .inr (Int.le_trans h1 h2)
  · intro h i hi
    have := hfin i hi
    refine sum_le (by omega) fun k hk => ?_
    show times (shf (ent R) a b i k) (x.getD k 0) ≤ _
    rw [ht i k hk]
    rcases h i hi k hk with e | e
    · rw [if_pos e]; omega
    · by_cases e2 : shf (ent R) a b i k = -1000000000000000
      · rw [if_pos e2]; omega
      · rw [if_neg e2]; exact e
end M
namespace V
open Go.RowKit
set_option maxRecDepth 100000 in
set_option maxHeartbeats 4000000 in
theorem sHolds (a : Option Addr) (n cap : Nat) (R : List (List Int)) (num den : Int) (a' : Option Addr) (N cap' : Nat) (l : List Int) (w0 : World) (h : Mat w0 a n R) (h' : Ints .i64 w0 a' N l) (hs : M.sqB R = true) (hr : M.isRat num den = true) :
    Calls Tryz.prog 148 #[.slice a n cap, .agg #[.int .i64 num, .int .i64 den], .slice a' N cap'] w0 fun e w' => e = .returned (.bool (M.holdsB R num den l)) ∧ Below w0.heap.size w0 w' := by
  obtain ⟨w, hwd⟩ : ∃ w, w = w0.alloc (rbox num den) := ⟨_, rfl⟩
  have HX : Hid (Boxed w0 w num den) := by show Boxed _ _ _ _; rw [hwd]; exact boxed _ _ _
  have HA : Hid (Mat w a n R) := h.below HX.out.below
  have HI : Hid (Ints .i64 w a' N l) := h'.below HX.out.below
  have HL := Lib.hid h'.1
  have HZ := Lib.hid HX.out.size
  obtain ⟨c0, c1⟩ := HX.out.cells (Below.refl _ _)
  obtain ⟨r1, n1, n2, r4⟩ := sq_parts HA.out hs
  have HQ := Lib.hid r1
  have HSm := Lib.hid r4
  have HR := Lib.hid hr
  have HSh : Hid (∀ i j, i < n → j < n → M.Sm 1000001000000 (M.shf (M.ent R) num den i j)) := fun i j hi hj => M.shf_sm (M.near_rat hr) (r4 i j hi hj)
  have HRl := Lib.hid HA.out.1
  by_cases hN : N = n
  · subst hN
    obtain ⟨b, hb⟩ : ∃ b, b = l.all M.isFin := ⟨_, rfl⟩
    have HF := Lib.hid hb.symm
    cases b with
    | true =>
      have HE : Hid (M.holdsB R num den l = true ↔ ∀ i, i < N → ∀ k, k < N → M.okArc (M.shf (M.ent R) num den) l i k) := by
        show _ ↔ _
        have := M.holdsB_of (a := num) (b := den) (show l.length = R.length by rw [HRl.out]; exact HL.out) hb.symm
        rw [HRl.out] at this
        exact this
      have HFin : Hid (∀ k, k < N → -1000000 ≤ l.getD k 0 ∧ l.getD k 0 ≤ 1000000) := fun k hk => by
        have hk' : k < l.length := by have := HL.out; omega
        have := List.all_eq_true.1 hb.symm l[k] (List.getElem_mem hk')
        rw [List.getD_eq_getElem?_getD, List.getElem?_eq_getElem hk']
        exact M.isFin_t this
      clear h h' hs hr r1 r4 hb
      go_enter Tryz.func148, Tryz.ntmps148
      go_wp2_with fail
      simp only [← hwd] at *
      clear hwd
      refine (sAllF_b _ _ _ l true HF.out _ HI.out).mono ?_
      rintro e w' ⟨rfl, rfl⟩
      go_wp2_with fail
      refine (sShift _ _ _ R _ _ _ HA.out HQ.out n1 n2 HSm.out (M.near_rat HR.out)).mono ?_
      rintro e w2 ⟨a2, cap2, rfl, hO, hb⟩
      obtain ⟨g, -, -, -, -, rfl, -⟩ := hO.tri (rect_mk _ _ _) 0 0 0 (by omega) (by omega) (by omega)
      have HO := Lib.hid hO
      have HB := Lib.hid (HX.out.trans hb)
      have HIl := Lib.hid (HI.out.below hb)
      clear hO hb
      obtain ⟨lb, lo, l0, rfl, -, -, -⟩ := HIl.out.at 0 (by omega)
      go_wp2
      go_loopw [8] (fun i wr => ∃ s : Nat, s ≤ N ∧ i = .int .i64 s ∧ Hid (∀ i, i < s → ∀ k, k < N → M.okArc (M.shf (M.ent R) num den) l i k) ∧ ∃ qd, wr = w2.drewN qd) (fun i _ => N - (intOf i).toNat)
      case atStart => exact ⟨0, Nat.zero_le _, rfl, fun i hi => absurd hi (Nat.not_lt_zero i), 0, rfl⟩
      case round =>
        obtain ⟨s, hs, rfl, HK, qd, rfl⟩ := hrel
        by_cases hsl : s < N
        · have hsi : (s : Int) < (N : Int) := by omega
          go_wp2
          go_loopw [9] (fun j wr => ∃ t : Nat, t ≤ N ∧ j = .int .i64 t ∧ Hid (∀ k, k < t → M.okArc (M.shf (M.ent R) num den) l s k) ∧ ∃ qd, wr = w2.drewN qd) (fun j _ => N - (intOf j).toNat)
          case atStart => exact ⟨0, Nat.zero_le _, rfl, fun i hi => absurd hi (Nat.not_lt_zero i), _, rfl⟩
          case round =>
            obtain ⟨t, ht, rfl, HJ, qe, rfl⟩ := hrel
            by_cases htl : t < N
            · have hti : (t : Int) < (N : Int) := by omega
              obtain ⟨g2, q, c, q', c', hgg, hq, h1, h2, -, -, -, -, -⟩ := HO.out.tri (rect_mk _ _ _) s t t hsl htl htl
              injection hgg with hgg
              injection hgg with hgg
              subst hgg
              rw [M.ent_mk _ _ _ _ _ hsl htl] at h2
              obtain ⟨d1, d2, u, hd, -, hu, cu⟩ := HIl.out.at t htl
              injection hd with hd
              injection hd with e1 e2
              subst e1 e2
              obtain ⟨d1, d2, v, hd, -, hv, cv⟩ := HIl.out.at s hsl
              injection hd with hd
              injection hd with e1 e2
              subst e1 e2
              have hfu := HFin.out t htl
              have hfv := HFin.out s hsl
              rw [← hu] at hfu
              rw [← hv] at hfv
              have HU := Lib.hid hu
              have HVv := Lib.hid hv
              obtain ⟨z, hz⟩ : ∃ z, z = M.shf (M.ent R) num den s t := ⟨_, rfl⟩
              rw [← hz] at h2
              have hzs := HSh.out s t hsl htl
              rw [← hz] at hzs
              unfold M.Sm at hzs
              have HZz := Lib.hid hz
              clear hu hv hz
              by_cases hzb : z = -1000000000000000
              · have HJ2 : Hid (∀ k, k < t + 1 → M.okArc (M.shf (M.ent R) num den) l s k) := fun k hk => by
                  by_cases e : k = t
                  · subst e; left; rw [← HZz.out, hzb]
                  · exact HJ.out k (by omega)
                subst hzb
                go_wp2
                go_quiet (fail)
                go_wp2
                go_roundw
                case rel => exact ⟨t + 1, by omega, by go_num, HJ2, _, by first | rfl | exact World.drewN_drewN _ _ _⟩
                case measure => simp [intOf]; omega
              · have hzn : (z != -1000000000000000) = true := by simpa using hzb
                have hzn2 : (z == -1000000000000000) = false := by simpa using hzb
                have e1 : IntKind.i64.wrap (z + u) = z + u := IntWalk.i64_in _ (by omega)
                by_cases hgt : v < z + u
                · have HFf : Hid (M.holdsB R num den l = false) := by
                    show _ = _
                    cases e : M.holdsB R num den l with
                    | false => rfl
                    | true =>
                      have := HE.out.1 e s hsl t htl
                      unfold M.okArc at this
                      rw [← HZz.out, ← HU.out, ← HVv.out] at this
                      omega
                  go_wp2
                  go_quiet (fail)
                  go_wp2
                  go_ret
                  exact ⟨retB HFf.out.symm, by first | exact below_drewN HB.out _ | exact below_drewN (below_drewN HB.out _) _⟩
                · have hgt2 : z + u ≤ v := by omega
                  have HJ2 : Hid (∀ k, k < t + 1 → M.okArc (M.shf (M.ent R) num den) l s k) := fun k hk => by
                    by_cases e : k = t
                    · subst e; right; rw [← HZz.out, ← HU.out, ← HVv.out]; exact hgt2
                    · exact HJ.out k (by omega)
                  go_wp2
                  go_quiet (fail)
                  go_wp2
                  go_roundw
                  case rel => exact ⟨t + 1, by omega, by go_num, HJ2, _, by first | rfl | exact World.drewN_drewN _ _ _⟩
                  case measure => simp [intOf]; omega
            · obtain rfl : t = N := by omega
              have HK2 : Hid (∀ i, i < s + 1 → ∀ k, k < t → M.okArc (M.shf (M.ent R) num den) l i k) := fun i hi k hk => by
                by_cases e : i = s
                · subst e; exact HJ.out k hk
                · exact HK.out i (by omega) k hk
              go_wp2
              go_roundw
              case rel => exact ⟨s + 1, by omega, by go_num, HK2, _, rfl⟩
              case measure => simp [intOf]; omega
        · obtain rfl : s = N := by omega
          have HT : Hid (M.holdsB R num den l = true) := HE.out.2 fun i hi k hk => HK.out i hi k hk
          go_wp2
          go_ret
          exact ⟨retB HT.out.symm, below_drewN HB.out _⟩
    | false =>
      have HE : Hid (M.holdsB R num den l = false) := by show _ = _; unfold M.holdsB; rw [← hb]; simp
      clear h h' hs hr r1 r4 hb
      go_enter Tryz.func148, Tryz.ntmps148
      go_wp2_with fail
      simp only [← hwd] at *
      clear hwd
      refine (sAllF_b _ _ _ l false HF.out _ HI.out).mono ?_
      rintro e w' ⟨rfl, rfl⟩
      go_wp2
      go_ret
      exact ⟨retB HE.out.symm, HX.out.below⟩
  · have HE : Hid (M.holdsB R num den l = false) := by
      show _ = _; unfold M.holdsB
      rw [decide_eq_false (fun e => hN (by rw [← HL.out, e, HRl.out]))]; simp
    have hne : ((N : Int) != (n : Int)) = true := by simp; omega
    have hne2 : ((N : Int) == (n : Int)) = false := by simp; omega
    have hne3 : (N == n) = false := by simpa using hN
    clear h h' hs hr r1 r4
    go_enter Tryz.func148, Tryz.ntmps148
    go_wp2
    try simp only [← hwd] at *
    go_ret
    exact ⟨retB HE.out.symm, HX.out.below⟩
set_option maxRecDepth 100000 in
set_option maxHeartbeats 2000000 in
theorem sIsPotential (a : Option Addr) (n cap : Nat) (R : List (List Int)) (num den : Int) (a' : Option Addr) (N cap' : Nat) (l : List Int) (w0 : World) (h : Mat w0 a n R) (h' : Ints .i64 w0 a' N l) :
    Calls Tryz.prog 74 #[.slice a n cap, .agg #[.int .i64 num, .int .i64 den], .slice a' N cap'] w0 fun e w' => e = .returned (.bool (M.isPotB R num den l)) ∧ Below w0.heap.size w0 w' := by
  obtain ⟨w, hwd⟩ : ∃ w, w = w0.alloc (rbox num den) := ⟨_, rfl⟩
  have HX : Hid (Boxed w0 w num den) := by show Boxed _ _ _ _; rw [hwd]; exact boxed _ _ _
  have HA : Hid (Mat w a n R) := h.below HX.out.below
  have HI : Hid (Ints .i64 w a' N l) := h'.below HX.out.below
  have HZ := Lib.hid HX.out.size
  by_cases hs : M.sqB R = true
  · have HS := Lib.hid hs
    by_cases hr : M.isRat num den = true
    · have HR := Lib.hid hr
      have HE : Hid (M.isPotB R num den l = M.holdsB R num den l) := by show _ = _; unfold M.isPotB; rw [hs, hr]; rfl
      clear h h' hs hr
      go_enter Tryz.func74, Tryz.ntmps74
      go_wp2_with fail
      simp only [← hwd] at *
      clear hwd
      refine (sSquare_b _ _ _ R _ true HS.out HA.out).mono ?_
      rintro e w' ⟨rfl, qd, rfl⟩
      obtain ⟨p0, p1⟩ := HX.out.cells (b_draws w qd)
      go_wp2_with fail
      refine (sIsRatio_b _ _ true HR.out _).mono ?_
      rintro e w1 ⟨rfl, hb1⟩
      have HB1 := Lib.hid ((b_draws w qd).trans hb1)
      obtain ⟨p0, p1⟩ := HX.out.cells HB1.out
      clear hb1
      go_wp2_with fail
      refine (sHolds _ _ _ R _ _ _ _ _ l _ (HA.out.below HB1.out) (HI.out.below HB1.out) HS.out HR.out).mono ?_
      rintro e w2 ⟨rfl, hb⟩
      have HB2 := Lib.hid (HX.out.trans (bnext HB1.out hb))
      clear hb
      go_wp2
      go_ret
      exact ⟨retB HE.out.symm, HB2.out⟩
    · simp only [Bool.not_eq_true] at hr
      have HR := Lib.hid hr
      have HE : Hid (M.isPotB R num den l = false) := by show _ = _; unfold M.isPotB; rw [hs, hr]; rfl
      clear h h' hs hr
      go_enter Tryz.func74, Tryz.ntmps74
      go_wp2_with fail
      simp only [← hwd] at *
      clear hwd
      refine (sSquare_b _ _ _ R _ true HS.out HA.out).mono ?_
      rintro e w' ⟨rfl, qd, rfl⟩
      obtain ⟨p0, p1⟩ := HX.out.cells (b_draws w qd)
      go_wp2_with fail
      refine (sIsRatio_b _ _ false HR.out _).mono ?_
      rintro e w1 ⟨rfl, hb1⟩
      have HB1 := Lib.hid (HX.out.trans ((b_draws w qd).trans hb1))
      clear hb1
      go_wp2
      go_ret
      exact ⟨retB HE.out.symm, HB1.out⟩
  · simp only [Bool.not_eq_true] at hs
    have HS := Lib.hid hs
    have HE : Hid (M.isPotB R num den l = false) := by show _ = _; unfold M.isPotB; rw [hs]; rfl
    clear h h' hs
    go_enter Tryz.func74, Tryz.ntmps74
    go_wp2_with fail
    simp only [← hwd] at *
    clear hwd
    refine (sSquare_b _ _ _ R _ false HS.out HA.out).mono ?_
    rintro e w' ⟨rfl, qd, rfl⟩
    go_wp2
    go_ret
    exact ⟨retB HE.out.symm, HX.out.trans (b_draws w qd)⟩
end V
end Go.Proofs.YtmcihaihbnnblaaGreat

namespace Go.Proofs.YtmcihaihbnnblaaGreat
namespace M
def kept (p : Nat → Bool) (k : Nat) : List Nat := (List.range k).filter p
theorem kept_next (p : Nat → Bool) (k : Nat) : kept p (k + 1) = kept p k ++ (if p k then [k] else []) := by
  unfold kept
  rw [List.range_succ, List.filter_append]
  congr 1
  by_cases h : p k = true
  · rw [if_pos h]; simp [h]
  · rw [if_neg h]; simp [h]
theorem kept_len (p : Nat → Bool) (k : Nat) : (kept p k).length ≤ k := by
  unfold kept
  exact Nat.le_trans (List.length_filter_le _ _) (by simp)
theorem kept_all {p : Nat → Bool} {k : Nat} (h : ∀ x, x < k → p x = true) : kept p k = List.range k := by
  unfold kept
  exact List.filter_eq_self.2 fun x hx => h x (List.mem_range.1 hx)
end M
namespace V
set_option maxRecDepth 100000
open Go.RowKit
theorem Chg.drewN {S : Nat → Prop} {a b : World} (h : Chg S a b) (q : Nat) : Chg S a (b.drewN q) := ⟨h.os, h.tape, h.output, h.size, h.other⟩
theorem ownsRow_drewN {w : World} {B : Nat} {e : TypeId} {s n : Nat} {v : Value} {xs : List Value} (h : w.ownsRow B e s v n xs) (q : Nat) : (w.drewN q).ownsRow B e s v n xs := h
theorem ownsRow_cells {B : Nat} {e : TypeId} {g N c : Nat} : ∀ (vs : List Value) (o : Nat) (W : World) (VV : List Value), W.ownsRow B e 1 (.slice (some ⟨g, 0, none⟩) N c) N VV → 
    ∃ VV', (W.setCells g o vs).ownsRow B e 1 (.slice (some ⟨g, 0, none⟩) N c) N VV' ∧ VV'.take o = VV.take o ∧ Chg (fun k => k = g) W (W.setCells g o vs)
  | [], o, W, VV, h => ⟨VV, h, rfl, Chg.refl _ _⟩
  | v :: r, o, W, VV, h => by
    obtain ⟨VV', h1, h2, h3⟩ := ownsRow_cells r (o + 1) (W.setCell ⟨g, o, none⟩ v) (VV.set o v) (World.ownsRow.stored h o v).1
    refine ⟨VV', h1, ?_, ((Chg.refl (fun k => k = g) W).set rfl v).trans h3⟩
    have e : VV'.take o = (VV'.take (o + 1)).take o := by rw [List.take_take]; congr 1; omega
    rw [e, h2, List.take_take, show min o (o + 1) = o by omega, List.take_set_of_le (Nat.le_refl o)]
theorem ownsRow_cut {W : World} {B : Nat} {e : TypeId} {g N c i : Nat} {VV : List Value} (h : W.ownsRow B e 1 (.slice (some ⟨g, 0, none⟩) N c) N VV) (hi : i ≤ N) : W.ownsRow B e 1 (.slice (some ⟨g, 0, none⟩) i c) i (VV.take i) := by
  obtain ⟨h1, h2⟩ := h
  rcases h2 with ⟨h', -⟩ | ⟨g', cap', cur, h', hb, hg, hnc, hcm, hcs, htake⟩
  · simp at h'
  · simp only [Value.slice.injEq, Option.some.injEq, Addr.mk.injEq, and_true, true_and] at h'
    obtain ⟨rfl, rfl⟩ := h'
    refine ⟨by rw [List.length_take]; omega, .inr ⟨g, c, cur, rfl, hb, hg, by omega, hcm, hcs, ?_⟩⟩
    rw [← htake, List.take_take]
    congr 1
    omega
theorem ownsRow_at {W : World} {B N g c : Nat} {e : TypeId} {VV : List Value} (h : W.ownsRow B e 1 (.slice (some ⟨g, 0, none⟩) N c) N VV) (k : Nat) (hk : k < N) : W.cell? ⟨g, k, none⟩ = some (VV.getD k (.slice none 0 0)) := by
  have hl := h.1
  rw [World.ownsRow.cellAt h k (by omega), List.getD_eq_getElem?_getD, List.getElem?_eq_getElem (by omega), Option.getD_some]
set_option maxRecDepth 100000 in
set_option maxHeartbeats 2000000 in
theorem indexF (g N c : Nat) (fp : Value) (V : List Value) (p : Nat → Bool) (w : World) (hN : N ≤ 10) (hc : ∀ k, k < N → w.cell? ⟨g, k, none⟩ = some (V.getD k (.slice none 0 0)))
    (hp : ∀ q k, k < N → Calls Tryz.prog 170 #[V.getD k (.slice none 0 0), fp] (w.drewN q) fun e w' => e = .returned (.bool (!p k)) ∧ ∃ q', w' = (w.drewN q).drewN q') :
    Calls Tryz.prog 208 #[.slice (some ⟨g, 0, none⟩) N c, .func (.func 170) #[] #[fp]] w fun e w' => (∃ q, w' = w.drewN q) ∧
      ((e = .returned (.int .i64 (-1)) ∧ ∀ x, x < N → p x = true) ∨ ∃ j : Nat, j < N ∧ e = .returned (.int .i64 j) ∧ p j = false ∧ ∀ x, x < j → p x = true) := by
  have HP := Lib.hid hp
  have HC := Lib.hid hc
  clear hp hc
  go_enter Tryz.func208, Tryz.ntmps208
  go_wp2
  go_loopw [5, 8] (fun _ iv wr => ∃ k : Nat, k ≤ N ∧ iv = .int .i64 k ∧ Hid (∀ x, x < k → p x = true) ∧ Hid (∃ q, wr = w.drewN q)) (fun _ iv _ => N - (intOf iv).toNat)
  case atStart => exact ⟨0, Nat.zero_le _, rfl, fun x hx => absurd hx (Nat.not_lt_zero x), 0, rfl⟩
  case round =>
    obtain ⟨k, hk, rfl, HA, HW⟩ := hrel
    obtain ⟨q, hq⟩ := HW.out
    subst hq
    by_cases hkl : k < N
    · have hki : (k : Int) < (N : Int) := by omega
      have cr : (w.drewN q).cell? ⟨g, k, none⟩ = some (V.getD k (.slice none 0 0)) := HC.out k hkl
      have hcall := HP.out q k hkl
      have HV : Hid (V.getD k (.slice none 0 0) = V.getD k (.slice none 0 0)) := rfl
      generalize V.getD k (.slice none 0 0) = v at *
      clear HV
      obtain ⟨t, ht⟩ : ∃ t, t = p k := ⟨_, rfl⟩
      have HT := Lib.hid ht
      rw [← ht] at hcall
      clear ht
      cases t with
      | true =>
        have HCa := Lib.hid hcall
        clear hcall
        go_wp2_with (go_at_call 170; refine (HCa.out).mono ?_; rintro e w' ⟨rfl, q', rfl⟩)
        go_roundw
        case rel => exact ⟨k + 1, by omega, by go_num, fun x hx => by rcases Nat.lt_or_ge x k with h | h; exact HA.out x h; rw [show x = k by omega]; exact HT.out.symm, q + q', rfl⟩
        case measure => simp [intOf]; omega
      | false =>
        have HCa := Lib.hid hcall
        clear hcall
        go_wp2_with (go_at_call 170; refine (HCa.out).mono ?_; rintro e w' ⟨rfl, q', rfl⟩)
        go_ret
        exact ⟨⟨q + q', rfl⟩, .inr ⟨k, hkl, rfl, HT.out.symm, HA.out⟩⟩
    · obtain rfl : k = N := by omega
      go_wp2
      go_ret
      exact ⟨⟨q, rfl⟩, .inl ⟨rfl, HA.out⟩⟩
set_option maxRecDepth 100000 in
set_option maxHeartbeats 4000000 in
theorem deleteF (B g N c : Nat) (fp : Value) (V : List Value) (p : Nat → Bool) (w : World) (hN : N ≤ 10) (hV : w.ownsRow B 34 1 (.slice (some ⟨g, 0, none⟩) N c) N V)
    (hcap : N ≤ c) (hsl : ∀ k, k < N → ∃ ra m rc, V.getD k (.slice none 0 0) = .slice ra m rc)
    (hp : ∀ W k, k < N → Chg (fun b => b = g) w W → Calls Tryz.prog 170 #[V.getD k (.slice none 0 0), fp] W fun e w' => e = .returned (.bool (!p k)) ∧ ∃ q', w' = W.drewN q') :
    Calls Tryz.prog 168 #[.slice (some ⟨g, 0, none⟩) N c, .func (.func 170) #[] #[fp]] w fun e w' => e = .returned (.slice (some ⟨g, 0, none⟩) (M.kept p N).length c) ∧
      w'.ownsRow B 34 1 (.slice (some ⟨g, 0, none⟩) (M.kept p N).length c) (M.kept p N).length ((M.kept p N).map fun i => V.getD i (.slice none 0 0)) ∧ Chg (fun b => b = g) w w' := by
  have HP := Lib.hid hp
  have HV := Lib.hid hV
  have HS := Lib.hid hsl
  have hVl : V.length = N := by have := hV.1; omega
  have HI := Lib.hid (indexF g N c fp V p w hN (fun k hk => ownsRow_at hV k hk) fun q k hk => by
    refine (hp (w.drewN q) k hk ((Chg.refl _ _).drewN q)).mono ?_
    rintro e w' ⟨he, q', hq⟩
    exact ⟨he, q', hq⟩)
  clear hp hV hsl
  go_enter Tryz.func168, Tryz.ntmps168
  go_wp2_with fail
  refine (HI.out).mono ?_
  rintro e w1 ⟨⟨q1, rfl⟩, ⟨rfl, hall⟩ | ⟨j0, hj0, rfl, hj1, hj2⟩⟩
  · have hk := M.kept_all hall
    have HE : Hid ((M.kept p N).length = N ∧ (M.kept p N).map (fun i => V.getD i (.slice none 0 0)) = V) := by
      refine ⟨by rw [hk]; simp, ?_⟩
      rw [hk]
      apply List.ext_getElem
      · simp [hVl]
      · intro x h1 h2
        simp only [List.getElem_map, List.getElem_range]
        rw [List.getD_eq_getElem?_getD, List.getElem?_eq_getElem h2, Option.getD_some]
    clear hall hk
    go_wp2
    go_ret
    refine ⟨by rw [HE.out.1]; rfl, ?_, (Chg.refl _ _).drewN q1⟩
    rw [HE.out.2, HE.out.1]
    exact HV.out
  · have hk : M.kept p (j0 + 1) = List.range j0 := by rw [M.kept_next, hj1, M.kept_all hj2]; simp
    have HK := Lib.hid hk
    have hne : ((j0 : Int) == -1) = false := by rw [beq_eq_false_iff_ne]; omega
    clear hj1 hj2 hk
    go_wp2
    go_loopw [5, 6, 7] (fun iv jv _ wr => ∃ (k : Nat) (VV : List Value), k ≤ N ∧ jv = .int .i64 k ∧ iv = .int .i64 (M.kept p k).length ∧ (M.kept p k).length < k ∧ Hid (wr.ownsRow B 34 1 (.slice (some ⟨g, 0, none⟩) N c) N VV) ∧ Hid (∀ x, x < (M.kept p k).length → VV.getD x (.slice none 0 0) = V.getD ((M.kept p k).getD x 0) (.slice none 0 0)) ∧ Hid (∀ x, k ≤ x → x < N → VV.getD x (.slice none 0 0) = V.getD x (.slice none 0 0)) ∧ Hid (Chg (fun b => b = g) w wr)) (fun _ jv _ _ => N - (intOf jv).toNat)
    case atStart =>
      refine ⟨j0 + 1, V, by omega, by go_num, by rw [HK.out]; simp, by rw [HK.out]; simp, HV.out, fun x hx => ?_, fun x _ _ => rfl, (Chg.refl _ _).drewN q1⟩
      rw [HK.out] at hx ⊢
      have hx2 : x < j0 := by simpa using hx
      congr 1
      rw [List.getD_eq_getElem?_getD, List.getElem?_range hx2]
      rfl
    case round =>
      obtain ⟨k, VV, hk, rfl, rfl, hik, HO, HL, HH, HC⟩ := hrel
      have hVVl : VV.length = N := by have := HO.out.1; omega
      by_cases hkl : k < N
      · have hki : (k : Int) < (N : Int) := by omega
        obtain ⟨ra, m, rc, hv⟩ := HS.out k hkl
        have cr : wr.cell? ⟨g, k, none⟩ = some (.slice ra m rc) := by rw [ownsRow_at HO.out k hkl, HH.out k (Nat.le_refl _) hkl, hv]
        have hcall := HP.out wr k hkl HC.out
        rw [hv] at hcall
        have HVk := Lib.hid hv
        have ci := ownsRow_at HO.out (M.kept p k).length (by omega)
        have fi := World.ownsRow.frozenAt HO.out (M.kept p k).length
        have hii : ((M.kept p k).length : Int) < (N : Int) := by omega
        have hnx := M.kept_next p k
        obtain ⟨t, ht⟩ : ∃ t, t = p k := ⟨_, rfl⟩
        rw [← ht] at hcall hnx
        have HCa := Lib.hid hcall
        generalize VV.getD (M.kept p k).length (.slice none 0 0) = old at ci
        clear hcall ht hv
        cases t with
        | false =>
          have HN : Hid (M.kept p (k + 1) = M.kept p k) := by show _ = _; rw [hnx]; simp
          clear hnx ci fi
          generalize hgk : M.kept p k = kp at *
          clear hgk
          generalize hgl : kp.length = i at *
          have HGl := Lib.hid hgl
          clear hgl
          go_wp2_with (go_at_call 170; refine (HCa.out).mono ?_; rintro e w' ⟨rfl, q', rfl⟩)
          go_roundw
          case rel => exact ⟨k + 1, VV, by omega, by go_num, by rw [HN.out, HGl.out], by rw [HN.out, HGl.out]; omega, HO.out, by show ∀ x, _ → _; rw [HN.out, HGl.out]; exact HL.out, fun x h1 h2 => HH.out x (by omega) h2, HC.out.drewN q'⟩
          case measure => simp [intOf]; omega
        | true =>
          have HN : Hid (M.kept p (k + 1) = M.kept p k ++ [k]) := by show _ = _; rw [hnx]; simp
          clear hnx
          generalize hgk : M.kept p k = kp at *
          clear hgk
          generalize hgl : kp.length = i at *
          have HGl := Lib.hid hgl
          clear hgl
          go_wp2_with (go_at_call 170; refine (HCa.out).mono ?_; rintro e w' ⟨rfl, q', rfl⟩)
          go_roundw
          case rel =>
            refine ⟨k + 1, VV.set i (.slice ra m rc), by omega, by go_num, by rw [HN.out, List.length_append, HGl.out]; go_num, by rw [HN.out, List.length_append, HGl.out]; simp; omega, (World.ownsRow.stored (ownsRow_drewN HO.out q') i (.slice ra m rc)).1, fun x hx => ?_, fun x h1 h2 => ?_, (HC.out.drewN q').set rfl _⟩
            · rw [HN.out] at hx ⊢
              rw [List.length_append, HGl.out] at hx
              rw [getD_set _ _ _ _ _ (by omega)]
              by_cases e : x = i
              · have e1 : (kp ++ [k]).getD kp.length 0 = k := by simp
                rw [if_pos e, e, ← HGl.out, e1, HVk.out]
              · have hx2 : x < i := by simp at hx; omega
                have e0 : (kp ++ [k]).getD x 0 = kp.getD x 0 := by rw [List.getD_eq_getElem?_getD, List.getD_eq_getElem?_getD, List.getElem?_append_left (by have := HGl.out; omega)]
                rw [if_neg e, HL.out x hx2, e0]
            · rw [getD_set _ _ _ _ _ (by omega), if_neg (by omega)]
              exact HH.out x (by omega) h2
          case measure => simp [intOf]; omega
      · obtain rfl : k = N := by omega
        have hkk : ¬ (k : Int) < (k : Int) := by omega
        have hcl : ∀ ty, (Builtin.clear_ #[24] ty #[.slice (some ⟨g, (M.kept p k).length, none⟩) (k - (M.kept p k).length) (c - (M.kept p k).length)]).run Tryz.prog wr = .ok (.tuple #[]) (wr.setCells g (M.kept p k).length (List.replicate (k - (M.kept p k).length) (.slice none 0 0))) :=
          fun ty => Lib.run_clear_slice wr _ _ ty _ Tryz.underlying24 Tryz.zeroValue34 rfl rfl g _ _ _ (by omega) (fun t ht => by rw [ownsRow_at HO.out _ (by omega)]; rfl) (fun t ht => World.ownsRow.frozenAt HO.out _)
        obtain ⟨VV', h1, h2, h3⟩ := ownsRow_cells (List.replicate (k - (M.kept p k).length) (.slice none 0 0)) (M.kept p k).length wr VV HO.out
        have hcut := ownsRow_cut h1 (i := (M.kept p k).length) (by omega)
        have e : VV'.take (M.kept p k).length = (M.kept p k).map (fun i => V.getD i (.slice none 0 0)) := by
          rw [h2]
          apply List.ext_getElem
          · simp; omega
          · intro x k1 k2
            have hx : x < (M.kept p k).length := by simpa using k2
            have := HL.out x hx
            rw [List.getD_eq_getElem?_getD, List.getElem?_eq_getElem (by omega), Option.getD_some] at this
            rw [List.getElem_take, this, List.getElem_map]
            congr 1
            rw [List.getD_eq_getElem?_getD, List.getElem?_eq_getElem hx, Option.getD_some]
        rw [e] at hcut
        have HCut := Lib.hid hcut
        have HCg := Lib.hid (HC.out.trans h3)
        clear hcut e h1 h2 h3
        generalize hgi : (M.kept p k).length = i at *
        have HGi := Lib.hid hgi
        clear hgi
        go_wp2
        go_ret
        have hgi := HGi.out
        subst hgi
        exact ⟨rfl, HCut.out, HCg.out⟩
end V
end Go.Proofs.YtmcihaihbnnblaaGreat
