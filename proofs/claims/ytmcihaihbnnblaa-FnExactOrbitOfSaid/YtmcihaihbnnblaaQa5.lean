/- Texts laid together: App, SBot, Shp, Sqp. -/
import Derived.Test.YtmcihaihbnnblaaRows
import Derived.Test.YtmcihaihbnnblaaQa1
import Derived.Test.YtmcihaihbnnblaaQa2
import Derived.Test.YtmcihaihbnnblaaQa3
import Derived.WalkKit
import Derived.ProofKit
import Derived.WalkSmall
import Derived.Deep.QuietTactic
import Derived.BigQuiet
import Derived.BigRegion
import Derived.Deep.Draws
import Derived.Lib.Hide
import Derived.OpenShut
import Derived.Deep.OwnRows
import Derived.Maps.AppendAt
import Derived.Test.YtmcihaihbnnblaaQa4
set_option linter.unusedSimpArgs false
set_option linter.unusedVariables false
set_option linter.unusedSectionVars false
namespace Go.Proofs.Ytmcihaihbnnblaa.V
open Go.RowKit

theorem append1 (w : World) {ops : Array Oper} {rest : List Oper} {o : Oper} {a : Act} {Q : Exit → Act → World → Prop} (hgd : o.guard = none) (s x : Operand)
    (ho : o.op = .call { callee := .builtin .append, args := #[s, x], argTypes := #[23, 23] }) (B : Nat) (v : Value) (l : List Int) (y : Int) (n : Nat) (hn : l.length = n) (hs : a.eval s = v) (hown : Own w B v l)
    (hx : a.eval x = .slice (some ⟨w.heap.size, 0, none⟩) 1 1) (hlen : l.length ≤ 2000000) (hB : B ≤ w.heap.size)
    (h : ∀ b' c' w', Own w' B (.slice b' (n + 1) c') (l ++ [y]) → Below B w w' → (∀ k, k < w.heap.size → v.ownBlock ≠ some k → w'.heap[k]? = w.heap[k]?) → wpList Try.prog ops Q rest (a.put o.dst (.slice b' (n + 1) c')) w') :
    wpList Try.prog ops Q (o :: rest) a (w.alloc (.cells #[.int .i64 y] 2)) := by
  subst hn
  obtain ⟨i0, hi, hz0, hz1, hz2⟩ := info_parts info64
  have hown2 : (w.alloc (.cells #[.int .i64 y] 2)).ownsRow B 2 1 v l.length (l.map (Value.int .i64)) := World.ownsRow.alloc hown _
  refine wpList_append_own_at (w := w.alloc (.cells #[.int .i64 y] 2)) hgd s x 23 ho B 2 i0 (.int .i64 0) 1 8 Try.underlying23 hi hz0 hz1 hz2 rfl (by decide) v _ _ hs hown2 ⟨w.heap.size, 0, none⟩ 1 1 [.int .i64 y] hx rfl (cell_one_new _ _ _) ?c2 ?c3 ?c4 ?c5 ?_
  case c2 => intro u hu; simp at hu; subst hu; rfl
  case c3 => unfold maxLen; omega
  case c4 => omega
  case c5 => simp; omega
  · intro v' w' hown' hgrow hz hvb
    have ho' : Own w' B v' (l ++ [y]) := by
      show w'.ownsRow B _ 1 v' (l ++ [y]).length ((l ++ [y]).map (Value.int .i64))
      simpa using hown'
    obtain ⟨b', c', hv', _⟩ := own_form ho'
    rw [show (l ++ [y]).length = l.length + 1 by simp] at hv'
    subst hv'
    refine h b' c' w' ho' (((Below.refl B w).alloc hB _).grown hgrow (by simp; omega) (fun k hk => (own_lt hown hk).1)) (fun k hk hne => ?_)
    obtain ⟨g1, g2, g3, g4, g5⟩ := hgrow
    rw [g5 k (by simp; omega) (fun e => hne e.symm), Below.heap_alloc _ _ _ hk]

theorem appendRow (w0 w : World) {ops : Array Oper} {rest : List Oper} {o : Oper} {a : Act} {Q : Exit → Act → World → Prop} (hgd : o.guard = none) (s x : Operand)
    (ho : o.op = .call { callee := .builtin .append, args := #[s, x], argTypes := #[22, 22] }) (B : Nat) (v rv : Value) (R : List (List Int)) (l : List Int) (n : Nat) (hn : R.length = n) (hs : a.eval s = v) (hown : OwnM w0 B v R) (hb : Below w0.heap.size w0 w) (hro : Own w w0.heap.size rv l)
    (hx : a.eval x = .slice (some ⟨w.heap.size, 0, none⟩) 1 1) (hlen : R.length ≤ 2000000) (hB : B ≤ w0.heap.size)
    (h : ∀ b' c' w', OwnM w' B (.slice b' (n + 1) c') (R ++ [l]) → Below B w w' → (∀ k, k < w.heap.size → v.ownBlock ≠ some k → w'.heap[k]? = w.heap[k]?) → wpList Try.prog ops Q rest (a.put o.dst (.slice b' (n + 1) c')) w') :
    wpList Try.prog ops Q (o :: rest) a (w.alloc (.cells #[rv] 23)) := by
  subst hn
  obtain ⟨i0, hi, hz0, hz1, hz2⟩ := info_parts infoS64
  have hsz := hb.size
  obtain ⟨V, h1, h2, h3⟩ := hown
  have hwV : w.ownsRow B 23 1 v R.length V := ownsRow_keep h2 (fun k hv => hb.block k (own_lt h2 hv).2)
  have hown2 : (w.alloc (.cells #[rv] 23)).ownsRow B 23 1 v R.length V := World.ownsRow.alloc hwV _
  refine wpList_append_own_at (w := w.alloc (.cells #[rv] 23)) hgd s x 22 ho B 23 i0 (.slice none 0 0) 1 24 Try.underlying22 hi hz0 hz1 hz2 rfl (by decide) v _ _ hs hown2 ⟨w.heap.size, 0, none⟩ 1 1 [rv] hx rfl (cell_one_new _ _ _) ?c2 ?c3 ?c4 ?c5 ?_
  case c2 =>
    intro u hu; simp at hu; subst hu
    obtain ⟨b', c', hv', _⟩ := own_form hro
    rw [hv']; rfl
  case c3 => unfold maxLen; omega
  case c4 => omega
  case c5 => simp; omega
  · intro v' w' hownV' hgrow hz hvb
    obtain ⟨g1, g2, g3, g4, g5⟩ := hgrow
    have hg : ∀ k, k < w.heap.size → v.ownBlock ≠ some k → w'.heap[k]? = w.heap[k]? := fun k hk hne => by
      rw [g5 k (by simp; omega) (fun e => hne e.symm), Below.heap_alloc _ _ _ hk]
    have hM : OwnM w' B v' (R ++ [l]) := by
      exact OwnV.snoc (q := (w.alloc (.cells #[rv] 23)).heap.size) ⟨h1, h2, h3⟩ hb hB hro hownV' hg hvb (by simp)
    obtain ⟨b', c', hv', _⟩ := hM.form
    rw [show (R ++ [l]).length = R.length + 1 by simp] at hv'
    subst hv'
    exact h b' c' w' hM (((Below.refl B w).alloc (by omega) _).grown ⟨g1, g2, g3, g4, g5⟩ (by simp; omega) (fun k hk => (own_lt h2 hk).1)) hg
end Go.Proofs.Ytmcihaihbnnblaa.V

namespace Go.Proofs.Ytmcihaihbnnblaa.V
open Go.RowKit

/-- A new matrix r with n rows. -/
def MPost (n : Nat) (r : List (List Int)) (w : World) (e : Ending) (w' : World) : Prop :=
  ∃ a cap, e = .returned (.slice a n cap) ∧ OwnM w' w.heap.size (.slice a n cap) r ∧ Below w.heap.size w w'
/-- A new matrix and a code. -/
def MRes (r : List (List Int) × Int) (w : World) (e : Ending) (w' : World) : Prop :=
  ∃ a n cap, e = .returned (.tuple #[.slice a n cap, .int .i64 r.2]) ∧ OwnM w' w.heap.size (.slice a n cap) r.1 ∧ Below w.heap.size w w'

theorem MRes.nil {r : List (List Int) × Int} {c : Int} {w w' : World} (hr : r = ([], c)) (hb : Below w.heap.size w w') : MRes r w (.returned (.tuple #[.slice none 0 0, .int .i64 c])) w' := by
  subst hr
  exact ⟨none, 0, 0, rfl, ownM_nil _ _, hb⟩

set_option maxRecDepth 100000 in
set_option maxHeartbeats 1000000 in
theorem sBottom (m n : Nat) (w : World) (hm : m ≤ 100) (hn : n ≤ 100) :
    Calls Try.prog 73 #[.int .i64 m, .int .i64 n] w (MPost m (M.botM m n) w) := by
  have hO0 : Hid (OwnM (w.alloc (.cells #[] 23)) w.heap.size (.slice (some ⟨w.heap.size, 0, none⟩) 0 0) []) := ownM_lit0 w _ (Nat.le_refl _)
  go_enter Try.func73, Try.ntmps73
  go_wp2
  go_loopw [5, 6] (fun out i wr => ∃ k : Nat, k ≤ m ∧ i = .int .i64 k ∧ ∃ b c, out = .slice b k c ∧ OwnM wr w.heap.size (.slice b k c) (M.botM k n) ∧ Below w.heap.size w wr) (fun _ i _ => m - (intOf i).toNat)
  case atStart => exact ⟨0, Nat.zero_le _, rfl, _, _, rfl, hO0.out, b_alloc _ _⟩
  case round =>
    obtain ⟨k, hk, rfl, b, c, rfl, hO, hb⟩ := hrel
    obtain ⟨wo, rfl⟩ : ∃ x, x = wr := ⟨_, rfl⟩
    have HO := Lib.hid hO
    have HB := Lib.hid hb
    clear hO hb hO0
    by_cases hlt : k < m
    · have hki : (k : Int) < (m : Int) := by omega
      have hr0 : Hid (Own (wo.alloc (.cells #[] 2)) wo.heap.size (.slice (some ⟨wo.heap.size, 0, none⟩) 0 0) []) := own_lit0 wo _ (Nat.le_refl _)
      go_wp2
      go_loopw [7, 8] (fun row j wi => ∃ t : Nat, t ≤ n ∧ j = .int .i64 t ∧ ∃ b c, row = .slice b t c ∧ Own wi wo.heap.size (.slice b t c) ((List.range t).map fun _ => -1000000000000000) ∧ Below wo.heap.size wo wi) (fun _ j _ => n - (intOf j).toNat)
      case atStart => exact ⟨0, Nat.zero_le _, rfl, _, _, rfl, hr0.out, b_alloc _ _⟩
      case round =>
        obtain ⟨t, ht, rfl, b1, c1, rfl, hO1, hb1⟩ := hrel
        have HO1 := Lib.hid hO1
        have HB1 := Lib.hid hb1
        clear hO1 hb1 hr0
        by_cases htn : t < n
        · have hti : (t : Int) < (n : Int) := by omega
          have hsz := HB1.out.size
          go_wp2_with (at_builtin; refine append1 _ rfl (.tmp 21) (.tmp 22) rfl wo.heap.size _ _ _ t HO1.out.len.symm rfl HO1.out rfl (by simp; omega) (by omega) ?_)
          intro b2 c2 w2 hO2 hb2 _
          have HO2 := Lib.hid hO2
          have HB2 := Lib.hid (HB1.out.trans hb2)
          clear hO2 hb2
          go_wp2
          go_roundw
          case rel => exact ⟨t + 1, by omega, by go_num, _, _, rfl, by rw [M.range_snoc]; exact HO2.out, HB2.out⟩
          case measure => simp [intOf]; omega
        · obtain rfl : t = n := by omega
          have hs1 := HB.out.size
          go_wp2_with (at_builtin; refine appendRow wo _ rfl (.tmp 24) (.tmp 26) rfl w.heap.size _ _ _ _ k HO.out.len.symm rfl HO.out HB1.out HO1.out rfl (by simp [M.botM]; omega) hs1 ?_)
          intro b2 c2 w2 hO2 hb2 _
          have HO2 : Hid (OwnM w2 w.heap.size (.slice b2 (k + 1) c2) (M.botM (k + 1) t)) := by
            have := hO2
            simp only [M.botM, M.mk_length] at this
            rw [← M.mk_snoc] at this
            exact this
          clear hO2
          have hO2 := True.intro
          have HB2 := Lib.hid (HB.out.trans ((HB1.out.mono hs1).trans hb2))
          clear hO2 hb2
          go_wp2
          go_roundw
          case rel => exact ⟨k + 1, by omega, by go_num, _, _, rfl, HO2.out, HB2.out⟩
          case measure => simp [intOf]; omega
    · obtain rfl : k = m := by omega
      go_wp2
      go_ret
      exact ⟨_, _, rfl, HO.out, HB.out⟩



end Go.Proofs.Ytmcihaihbnnblaa.V

namespace Go.Proofs.Ytmcihaihbnnblaa
namespace M
def shvL (l : List Int) (g : Int) : List Int := l.map fun x => times x g
def shvRes (l : List Int) (g : Int) : List Int × Int := if isVec l then (if isFin g then (if isVec (shvL l g) then (shvL l g, 0) else ([], 3)) else ([], 2)) else ([], 1)
theorem shv_len (l : List Int) (g : Int) : (shvL l g).length = l.length := by simp [shvL]
theorem shv_get {l : List Int} {g : Int} {i : Nat} (hi : i < l.length) : (shvL l g).getD i 0 = times (l.getD i 0) g := by
  simp [shvL, hi]
theorem shv_take {l : List Int} {g : Int} {k : Nat} (hk : k < l.length) : (shvL l g).take (k + 1) = (shvL l g).take k ++ [times (l.getD k 0) g] := by
  have h := List.take_succ_eq_append_getElem (l := shvL l g) (i := k) (by rw [shv_len]; exact hk)
  rw [h]
  congr 2
  simp [shvL, hk]
theorem shvRes_len (l : List Int) (g : Int) : (shvRes l g).1.length ≤ 10 := by
  unfold shvRes
  split
  · split
    · split
      · rename_i h
        have := (isVec_t h).2.1
        exact this
      · exact Nat.zero_le _
    · exact Nat.zero_le _
  · exact Nat.zero_le _
/-- The element with the index k of the orbit of x. -/
def orb (R : List (List Int)) (x : List Int) : Nat → List Int
  | 0 => x
  | k + 1 => applyM R (orb R x k)
def orbL (R : List (List Int)) (x : List Int) (k : Nat) : List (List Int) := (List.range k).map (orb R x)
def orbCode (R : List (List Int)) (x : List Int) : Int := if sqB R && isVec x then (if x.length = R.length then 0 else 5) else 1
def orbRes (R : List (List Int)) (x : List Int) (n : Int) : List (List Int) × Int :=
  if orbCode R x = 0 then (if 0 ≤ n ∧ n ≤ 100 then (if (orbL R x (n.toNat + 1)).all isVec then (orbL R x (n.toNat + 1), 0) else ([], 3)) else ([], 2)) else ([], orbCode R x)
theorem orbCode_t {R : List (List Int)} {x : List Int} (h : orbCode R x = 0) : sqB R = true ∧ isVec x = true ∧ x.length = R.length := by
  unfold orbCode at h
  by_cases h1 : (sqB R && isVec x) = true
  · rw [if_pos h1] at h
    by_cases h2 : x.length = R.length
    · rw [Bool.and_eq_true] at h1
      exact ⟨h1.1, h1.2, h2⟩
    · rw [if_neg h2] at h; exact absurd h (by decide)
  · rw [if_neg h1] at h; exact absurd h (by decide)
theorem orbL_len (R : List (List Int)) (x : List Int) (k : Nat) : (orbL R x k).length = k := by simp [orbL]
theorem orbL_next (R : List (List Int)) (x : List Int) (k : Nat) : orbL R x (k + 1) = orbL R x k ++ [orb R x k] := by
  simp [orbL, List.range_succ]
theorem orbL_get {R : List (List Int)} {x : List Int} {k i : Nat} (h : i < k) : (orbL R x k).getD i [] = orb R x i := by
  simp [orbL, h]
theorem orb_len {R : List (List Int)} {x : List Int} (h : x.length = R.length) : ∀ k, (orb R x k).length = R.length
  | 0 => h
  | _ + 1 => apply_len' _ _
theorem orb_all {R : List (List Int)} {x : List Int} {k : Nat} (h : (orbL R x k).all isVec = true) {i : Nat} (hi : i < k) : isVec (orb R x i) = true := by
  rw [List.all_eq_true] at h
  exact h _ (List.mem_map.2 ⟨i, List.mem_range.2 hi, rfl⟩)
theorem orb_all_next {R : List (List Int)} {x : List Int} {k : Nat} (h : (orbL R x k).all isVec = true) (h2 : isVec (orb R x k) = true) : (orbL R x (k + 1)).all isVec = true := by
  rw [orbL_next, List.all_append, h]
  simp [h2]
theorem orb_all_not {R : List (List Int)} {x : List Int} {k m : Nat} (hk : k < m) (h2 : isVec (orb R x k) = false) : (orbL R x m).all isVec = false := by
  cases e : (orbL R x m).all isVec with
  | false => rfl
  | true => rw [orb_all e hk] at h2; exact absurd h2 (by decide)
end M
end Go.Proofs.Ytmcihaihbnnblaa

namespace Go.Proofs.Ytmcihaihbnnblaa
namespace M
/-- The list shifted such that its greatest element is 0 if it is finite. -/
def nrm (x : List Int) : List Int := shvL x (-(maxL x))
/-- The difference at the first index at which both have a finite element. -/
def gapI : List Int → List Int → Int
  | a :: x, b :: y => if a ≠ -1000000000000000 ∧ b ≠ -1000000000000000 then b - a else gapI x y
  | _, _ => 0
def gapB (x y : List Int) : Bool := decide (shvL x (gapI x y) = y)
theorem gapI_spec : ∀ (x y : List Int), x.length = y.length → (∃ i, i < x.length ∧ x.getD i 0 ≠ -1000000000000000 ∧ y.getD i 0 ≠ -1000000000000000 ∧ gapI x y = y.getD i 0 - x.getD i 0) ∨ ((∀ i, i < x.length → x.getD i 0 = -1000000000000000 ∨ y.getD i 0 = -1000000000000000) ∧ gapI x y = 0)
  | [], [], _ => .inr ⟨fun i hi => absurd hi (Nat.not_lt_zero i), rfl⟩
  | [], b :: y, h => absurd h (by simp)
  | a :: x, [], h => absurd h (by simp)
  | a :: x, b :: y, h => by
    by_cases e : a ≠ -1000000000000000 ∧ b ≠ -1000000000000000
    · exact .inl ⟨0, by simp, e.1, e.2, by simp [gapI, e]⟩
    · have hg : gapI (a :: x) (b :: y) = gapI x y := by rw [gapI, if_neg e]
      rcases gapI_spec x y (by simpa using h) with ⟨i, hi, h1, h2, h3⟩ | ⟨h1, h2⟩
      · exact .inl ⟨i + 1, by simpa using hi, by simpa using h1, by simpa using h2, by rw [hg, h3]; simp⟩
      · refine .inr ⟨fun i hi => ?_, by rw [hg, h2]⟩
        cases i with
        | zero => simp only [List.getD_cons_zero]; omega
        | succ i => simpa using h1 i (by simpa using hi)
theorem maxL_foldl : ∀ (l : List Int) (m : Int), m ≤ l.foldl max m ∧ (∀ i, i < l.length → l.getD i 0 ≤ l.foldl max m) ∧ (l.foldl max m = m ∨ ∃ i, i < l.length ∧ l.getD i 0 = l.foldl max m)
  | [], m => ⟨Int.le_refl _, fun i hi => absurd hi (Nat.not_lt_zero i), .inl rfl⟩
  | a :: l, m => by
    obtain ⟨h1, h2, h3⟩ := maxL_foldl l (max m a)
    refine ⟨by rw [List.foldl_cons]; omega, fun i hi => ?_, ?_⟩
    · rw [List.foldl_cons]
      cases i with
      | zero => simp only [List.getD_cons_zero]; omega
      | succ i => simpa using h2 i (by simpa using hi)
    · rw [List.foldl_cons]
      rcases h3 with h3 | ⟨i, hi, h3⟩
      · rw [h3]
        rcases Int.le_total m a with e | e
        · exact .inr ⟨0, by simp, by rw [List.getD_cons_zero]; omega⟩
        · exact .inl (by omega)
      · exact .inr ⟨i + 1, by simpa using hi, by simpa using h3⟩
theorem maxL_ge {x : List Int} {i : Nat} (hi : i < x.length) : x.getD i 0 ≤ maxL x := (maxL_foldl x _).2.1 i hi
theorem maxL_low (x : List Int) : -1000000000000000 ≤ maxL x := (maxL_foldl x _).1
theorem maxL_mem (x : List Int) : maxL x = -1000000000000000 ∨ ∃ i, i < x.length ∧ x.getD i 0 = maxL x := (maxL_foldl x _).2.2
theorem list_ext0 {x y : List Int} (h : x.length = y.length) (h2 : ∀ i, i < x.length → x.getD i 0 = y.getD i 0) : x = y := by
  refine List.ext_getElem h fun i h1 h3 => ?_
  have := h2 i h1
  simpa [h1, h3] using this
theorem shv_eq {x y : List Int} {g d : Int} (h : x.length = y.length) : shvL x g = shvL y d ↔ ∀ i, i < x.length → times (x.getD i 0) g = times (y.getD i 0) d := by
  constructor
  · intro e i hi
    rw [← shv_get hi, e, shv_get (by omega)]
  · intro e
    exact list_ext0 (by rw [shv_len, shv_len, h]) fun i hi => by
      rw [shv_len] at hi
      rw [shv_get hi, shv_get (by omega)]; exact e i hi
theorem shv_is {x y : List Int} {g : Int} (h : x.length = y.length) : shvL x g = y ↔ ∀ i, i < x.length → times (x.getD i 0) g = y.getD i 0 := by
  constructor
  · intro e i hi
    rw [← shv_get hi, e]
  · intro e
    exact list_ext0 (by rw [shv_len, h]) fun i hi => by
      rw [shv_len] at hi
      rw [shv_get hi]; exact e i hi
def Vals (x : List Int) : Prop := ∀ i, i < x.length → isVal (x.getD i 0) = true
theorem maxL_vals {x : List Int} (h : Vals x) : isVal (maxL x) = true := by
  rcases maxL_mem x with e | ⟨i, hi, e⟩
  · rw [e]; rfl
  · rw [← e]; exact h i hi
/-- A list that is y shifted by g has the same pattern, and a greatest element shifted by g. -/
theorem nrm_of {x y : List Int} {g : Int} (hl : x.length = y.length) (hx : Vals x) (hy : Vals y) (hg : -10000000 ≤ g) (hg2 : g ≤ 10000000) (h : shvL x g = y) : nrm x = nrm y ∧ times (maxL x) g = maxL y := by
  rw [shv_is hl] at h
  have hm : times (maxL x) g = maxL y := by
    have v := isVal_t (maxL_vals hx)
    have v2 := isVal_t (maxL_vals hy)
    rcases maxL_mem x with e | ⟨i, hi, e⟩
    · rcases maxL_mem y with e2 | ⟨j, hj, e2⟩
      · rw [e, e2]; rfl
      · have h3 := h j (by omega)
        have h4 := maxL_ge (x := x) (i := j) (by omega)
        have h5 := isVal_t (hx j (by omega))
        have h6 : x.getD j 0 = -1000000000000000 := by omega
        rw [h6] at h3
        rw [e, ← e2, ← h3]
    · have h3 := h i hi
      rw [e] at h3
      have h4 := maxL_ge (x := y) (i := i) (by omega)
      rw [← h3] at h4
      rcases maxL_mem y with e2 | ⟨j, hj, e2⟩
      · have h5 := maxL_low y
        unfold times at h4 ⊢
        split
        · exact e2.symm
        · rename_i hn
          rw [if_neg hn, e2] at h4
          omega
      · have h5 := h j (by omega)
        have h6 := maxL_ge (x := x) (i := j) (by omega)
        have h7 := isVal_t (hx j (by omega))
        rw [e2] at h5
        unfold times at h5 h4 ⊢
        split at h5 <;> split at h4 <;> split <;> omega
  refine ⟨?_, hm⟩
  unfold nrm
  rw [shv_eq hl]
  intro i hi
  have h3 := h i hi
  have v := isVal_t (maxL_vals hx)
  have v2 := isVal_t (maxL_vals hy)
  have v3 := isVal_t (hx i hi)
  have v4 := isVal_t (hy i (by omega))
  have v5 := maxL_ge hi
  rw [← hm] at v2 ⊢
  rw [← h3] at v4 ⊢
  unfold times at *
  split <;> split <;> split at * <;> omega
theorem gapI_bd {x y : List Int} (hl : x.length = y.length) (hx : Vals x) (hy : Vals y) : -2000000 ≤ gapI x y ∧ gapI x y ≤ 2000000 := by
  rcases gapI_spec x y hl with ⟨i, hi, h1, h2, h3⟩ | ⟨h1, h2⟩
  · have v3 := isVal_t (hx i hi)
    have v4 := isVal_t (hy i (by omega))
    omega
  · omega
theorem nrm_gap {x y : List Int} (hl : x.length = y.length) (hx : Vals x) (hy : Vals y) (h : nrm x = nrm y) : gapI x y = maxL y - maxL x ∧ shvL x (gapI x y) = y := by
  unfold nrm at h
  rw [shv_eq hl] at h
  have v := isVal_t (maxL_vals hx)
  have v2 := isVal_t (maxL_vals hy)
  have hb : ∀ i, i < x.length → (x.getD i 0 = -1000000000000000 ↔ y.getD i 0 = -1000000000000000) := fun i hi => by
    have h3 := h i hi
    have v3 := isVal_t (hx i hi)
    have v4 := isVal_t (hy i (by omega))
    unfold times at h3
    split at h3 <;> split at h3 <;> omega
  have hd : ∀ i, i < x.length → x.getD i 0 ≠ -1000000000000000 → y.getD i 0 - x.getD i 0 = maxL y - maxL x := fun i hi hne => by
    have h3 := h i hi
    have v3 := isVal_t (hx i hi)
    have v4 := isVal_t (hy i (by omega))
    have v5 := maxL_ge hi
    have v6 := maxL_ge (x := y) (i := i) (by omega)
    have := hb i hi
    unfold times at h3
    split at h3 <;> split at h3 <;> omega
  have hG : gapI x y = maxL y - maxL x := by
    rcases gapI_spec x y hl with ⟨i, hi, h1, h2, h3⟩ | ⟨h1, h2⟩
    · rw [h3]; exact hd i hi h1
    · rw [h2]
      rcases maxL_mem x with e | ⟨i, hi, e⟩
      · rcases maxL_mem y with e2 | ⟨j, hj, e2⟩
        · omega
        · have h4 := h1 j (by omega)
          have h5 := hb j (by omega)
          omega
      · have h4 := h1 i hi
        have h5 := hb i hi
        have h6 : x.getD i 0 = -1000000000000000 := by omega
        rcases maxL_mem y with e2 | ⟨j, hj, e2⟩
        · omega
        · have h7 := h1 j (by omega)
          have h8 := hb j (by omega)
          omega
  refine ⟨hG, ?_⟩
  rw [shv_is hl]
  intro i hi
  have h1 := hb i hi
  have h2 := hd i hi
  rw [← hG] at h2
  obtain ⟨b1, b2⟩ := gapI_bd hl hx hy
  unfold times
  split <;> omega
theorem gapB_iff {x y : List Int} (hl : x.length = y.length) (hx : Vals x) (hy : Vals y) : gapB x y = true ↔ nrm x = nrm y := by
  unfold gapB
  rw [decide_eq_true_iff]
  constructor
  · intro h
    obtain ⟨b1, b2⟩ := gapI_bd hl hx hy
    exact (nrm_of hl hx hy (by omega) (by omega) h).1
  · intro h
    exact (nrm_gap hl hx hy h).2
/-- IsRepeat's test, both ways. -/
theorem shv_iff {x y : List Int} {g : Int} (hl : x.length = y.length) (hx : Vals x) (hy : Vals y) (hg : -10000000 ≤ g) (hg2 : g ≤ 10000000) : shvL x g = y ↔ (nrm x = nrm y ∧ times (maxL x) g = maxL y) := by
  constructor
  · exact nrm_of hl hx hy hg hg2
  · rintro ⟨h1, h2⟩
    obtain ⟨h3, h4⟩ := nrm_gap hl hx hy h1
    rw [shv_is hl] at h4 ⊢
    intro i hi
    have h5 := h4 i hi
    have v3 := isVal_t (hx i hi)
    have v5 := maxL_ge hi
    have v := isVal_t (maxL_vals hx)
    have v2 := isVal_t (maxL_vals hy)
    rw [h3] at h5
    unfold times at h5 h2 ⊢
    split at h5 <;> split at h2 <;> split <;> omega
end M
end Go.Proofs.Ytmcihaihbnnblaa
