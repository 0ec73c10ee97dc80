/- Texts laid together: Orb, Ser, Pla, Plb, Plc, Pml, Clo4, Clo5. -/
import Derived.Test.YtmobcobdpemlnaaQa12
import Derived.Test.YtmobcobdpemlnaaQa8
import Derived.Test.YtmobcobdpemlnaaQa5
import Derived.Test.YtmobcobdpemlnaaQa7
import Derived.Deep.RegionLaw
import Derived.Test.YtmobcobdpemlnaaQa11
import Derived.StillTailTactics
import Derived.Test.YtmobcobdpemlnaaQa9
set_option linter.unusedSimpArgs false
set_option linter.unusedVariables false
set_option linter.unusedSectionVars false
namespace Go.Proofs.Ytmobcobdpemlnaa
namespace M
theorem orbL_one (R : List (List Int)) (x : List Int) : orbL R x 1 = [x] := rfl
theorem orbRes_ok (R : List (List Int)) (x : List Int) (n : Int) : pre (orbRes R x n).1 (orbRes R x n).1.length ≤ 2000 ∧ (orbRes R x n).1.length ≤ 101 := by
  unfold orbRes
  split
  · next h =>
    obtain ⟨hs, hx, hl⟩ := orbCode_t h
    split
    · next h2 =>
      split
      · refine ⟨?_, by rw [orbL_len]; omega⟩
        have hv := (isVec_t hx).2.1
        have : ∀ k, pre (orbL R x (n.toNat + 1)) k ≤ 10 * k := by
          intro k
          unfold pre
          induction k with
          | zero => simp
          | succ k ih =>
            by_cases q : k < (orbL R x (n.toNat + 1)).length
            · rw [List.take_succ_eq_append_getElem q, List.map_append, List.sum_append]
              have hk : k < n.toNat + 1 := by rw [orbL_len] at q; exact q
              have : (orbL R x (n.toNat + 1))[k].length ≤ 10 := by
                have e : (orbL R x (n.toNat + 1))[k] = orb R x k := by
                  have := orbL_get (R := R) (x := x) hk
                  rw [List.getD_eq_getElem?_getD, List.getElem?_eq_getElem q] at this
                  exact this
                rw [e, orb_len hl]; omega
              simp only [List.map_cons, List.map_nil, List.sum_cons, List.sum_nil]
              omega
            · rw [List.take_of_length_le (by omega)]
              rw [List.take_of_length_le (by omega)] at ih
              omega
        have := this (orbL R x (n.toNat + 1)).length
        show pre (orbL R x (n.toNat + 1)) (orbL R x (n.toNat + 1)).length ≤ 2000
        rw [orbL_len] at this ⊢
        omega
      · simp [pre]
    · simp [pre]
  · simp [pre]
end M
namespace V
set_option maxRecDepth 100000
open Go.RowKit
theorem sq_parts7 {w : World} {a : Option Addr} {n : Nat} {R : List (List Int)} (h : Mat w a n R) (hs : M.sqB R = true) : Rect R n n ∧ 1 ≤ n ∧ n ≤ 10 ∧ ∀ i j, i < n → j < n → M.Sm 1000000 (M.ent R i j) := by
  have hq := sq_of h hs
  have e := (M.sq_sm hs).2.2
  rw [h.1] at e
  exact ⟨hq.2.1, hq.2.2.2.1, hq.2.2.2.2, e⟩
end V
end Go.Proofs.Ytmobcobdpemlnaa

namespace Go.Proofs.Ytmobcobdpemlnaa
namespace M
theorem flat_take {X : List (List Int)} {k : Nat} (hk : k < X.length) : (X.take (k + 1)).flatten = (X.take k).flatten ++ X.getD k [] := by
  rw [List.take_succ_eq_append_getElem hk, List.flatten_append]
  simp [hk]
theorem flat_small {X : List (List Int)} {n L : Nat} (h1 : X.length = n) (h2 : ∀ i, i < n → (X.getD i []).length = L) : ∀ k, k ≤ n → (X.take k).flatten.length = k * L := by
  intro k
  induction k with
  | zero => intro _; simp
  | succ k ih =>
    intro hk
    rw [flat_take (by omega), List.length_append, ih (by omega), h2 k (by omega), Nat.succ_mul]
end M
namespace V
set_option maxRecDepth 100000
open Go.RowKit
/-- A list of integers is appended to an owned list of integers. -/
theorem appendInts (w : World) {ops : Array Oper} {rest : List Oper} {o : Oper} {a : Act} {Q : Exit → Act → World → Prop} (hgd : o.guard = none) (s x : Operand)
    (ho : o.op = .call { callee := .builtin .append, args := #[s, x], argTypes := #[26, 26] }) (B : Nat) (v : Value) (l l2 : List Int) (hs : a.eval s = v) (hown : Own w B v l)
    {ad : Option Addr} {n2 c2 : Nat} (hx : a.eval x = .slice ad n2 c2) (hI : Ints .i64 w ad n2 l2) (h0 : 0 < n2) (hlen : l.length + n2 ≤ 2000000) (hB : B ≤ w.heap.size)
    (h : ∀ b' c' w', Own w' B (.slice b' (l.length + n2) c') (l ++ l2) → Below B w w' → wpList Try.prog ops Q rest (a.put o.dst (.slice b' (l.length + n2) c')) w') :
    wpList Try.prog ops Q (o :: rest) a w := by
  obtain ⟨i0, hi, hz0, hz1, hz2⟩ := info_parts info64
  obtain ⟨e1, e2, e3⟩ := hI
  rcases e3 with e3 | ⟨b, off, rfl, hlt, hc⟩
  · omega
  refine wpList_append_own_at (w := w) hgd s x 26 ho B 2 i0 (.int .i64 0) 1 8 Try.underlying26 hi hz0 hz1 hz2 rfl (by decide) v _ _ hs hown ⟨b, off, none⟩ n2 c2 (l2.map (Value.int .i64)) hx (by simp [e1]) (ints_cells hc e1) ?c2 ?c3 ?c4 hB ?_
  case c2 => intro u hu; obtain ⟨x, _, rfl⟩ := List.mem_map.1 hu; rfl
  case c3 => unfold maxLen; omega
  case c4 => omega
  · intro v' w' hown' hgrow hz hvb
    have ho' : Own w' B v' (l ++ l2) := by
      show w'.ownsRow B _ 1 v' (l ++ l2).length ((l ++ l2).map (Value.int .i64))
      rw [List.length_append, e1, List.map_append]
      exact hown'
    obtain ⟨b', c', hv', _⟩ := own_form ho'
    rw [show (l ++ l2).length = l.length + n2 by rw [List.length_append, e1]] at hv'
    subst hv'
    exact h b' c' w' ho' ((Below.refl B w).grown hgrow hB (fun k hk => (own_lt hown hk).1))
end V
end Go.Proofs.Ytmobcobdpemlnaa

namespace Go.Proofs.Ytmobcobdpemlnaa
namespace V
set_option maxRecDepth 100000
open Go.RowKit
theorem M.top_bot {l : List Int} (h1 : 1 ≤ l.length) (hv : l.all M.isVal = true) : (!decide (M.topN (fun i => l.getD i 0) (l.length - 1) = -1000000000000000)) = l.any fun v => decide (v ≠ -1000000000000000) := by
  obtain ⟨v, hvl, e⟩ := M.topN_at (fun i => l.getD i 0) (l.length - 1)
  rw [Bool.eq_iff_iff, List.any_eq_true]
  simp only [Bool.not_eq_true', decide_eq_false_iff_not, decide_eq_true_eq]
  constructor
  · intro h
    refine ⟨l.getD v 0, ?_, by rw [← e]; exact h⟩
    rw [List.getD_eq_getElem?_getD, List.getElem?_eq_getElem (by omega)]; exact List.getElem_mem _
  · rintro ⟨x, hx, hne⟩ h
    obtain ⟨i, hi, rfl⟩ := List.getElem_of_mem hx
    have h2 := M.topN_ge (fun i => l.getD i 0) (l.length - 1) i (by omega)
    have h3 := M.isVal_bound (M.ply_vals hv hi)
    simp only [List.getD_eq_getElem?_getD, List.getElem?_eq_getElem hi, Option.getD_some] at h h2 h3
    omega
set_option maxRecDepth 100000 in
set_option maxHeartbeats 1000000 in
theorem isBottomOnly (a : Option Addr) (n cap : Nat) (l : List Int) (w : World) (h : Ints .i64 w a n l) (h1 : 1 ≤ n) :
    Calls Try.prog 107 #[.slice a n cap] w fun e w' => e = .returned (.bool (decide (M.topN (fun i => l.getD i 0) (n - 1) = -1000000000000000))) ∧ w = w' := by
  have HC := slicesMax a n cap l w h h1
  clear h
  generalize M.topN (fun i => l.getD i 0) (n - 1) = y at *
  have HC' := Lib.hid HC
  clear HC
  go_enter Try.func107, Try.ntmps107
  go_wp2_with fail
  refine (HC'.out).mono ?_
  rintro e w' ⟨rfl, rfl⟩
  go_wp2
  go_ret
  exact ⟨retB (by by_cases q : y = -1000000000000000 <;> simp [q]), rfl⟩
set_option maxRecDepth 100000 in
set_option maxHeartbeats 1000000 in
theorem isPolynomial (a : Option Addr) (n cap : Nat) (l : List Int) (w : World) (h : Ints .i64 w a n l) :
    Calls Try.prog 74 #[.slice a n cap] w fun e w' => e = .returned (.bool (M.isPoly l)) ∧ w = w' := by
  have HI := Lib.hid h
  have hl := h.1
  have hm := h.2.1
  unfold maxLen at hm
  have HL := Lib.hid hl
  clear h
  by_cases h0 : n = 0
  · have HE : Hid (M.isPoly l = false) := M.isPoly_len0 (by omega)
    subst h0
    clear hl
    go_enter Try.func74, Try.ntmps74
    go_wp2
    go_ret
    exact ⟨retB HE.out.symm, rfl⟩
  · have h1 : (1 : Int) ≤ n := by omega
    by_cases h12 : 12 < n
    · have HE : Hid (M.isPoly l = false) := M.isPoly_long (by omega)
      have h13 : ¬ (n : Int) ≤ 12 := by omega
      clear hl
      go_enter Try.func74, Try.ntmps74
      go_wp2
      go_ret
      exact ⟨retB HE.out.symm, rfl⟩
    · have h13 : (n : Int) ≤ 12 := by omega
      obtain ⟨v, hv⟩ : ∃ v, v = l.all M.isVal := ⟨_, rfl⟩
      have HV := Lib.hid hv
      cases v with
      | false =>
        have HE : Hid (M.isPoly l = false) := M.isPoly_val hv.symm
        clear hl hv
        go_enter Try.func74, Try.ntmps74
        go_wp2_with fail
        refine (areValues _ _ _ l _ HI.out).mono ?_
        rintro e w' ⟨rfl, rfl⟩
        rw [← HV.out]
        go_wp2
        go_ret
        exact ⟨retB HE.out.symm, rfl⟩
      | true =>
        have HE : Hid (M.isPoly l = !decide (M.topN (fun i => l.getD i 0) (n - 1) = -1000000000000000)) := by
          show _ = _
          rw [← hl, M.top_bot (by omega) hv.symm]; exact M.isPoly_rest (by omega) (by omega) hv.symm
        clear hl hv
        go_enter Try.func74, Try.ntmps74
        go_wp2_with fail
        refine (areValues _ _ _ l _ HI.out).mono ?_
        rintro e w' ⟨rfl, rfl⟩
        rw [← HV.out]
        go_wp2_with fail
        refine (isBottomOnly _ _ _ l _ HI.out (by omega)).mono ?_
        rintro e w' ⟨rfl, rfl⟩
        generalize decide (M.topN (fun i => l.getD i 0) (n - 1) = -1000000000000000) = y at HE ⊢
        go_wp2
        go_ret
        exact ⟨retB (by rw [HE.out]), rfl⟩
theorem isPolynomial_b (a : Option Addr) (n cap : Nat) (l : List Int) (w : World) (b : Bool) (hb : M.isPoly l = b) (h : Ints .i64 w a n l) :
    Calls Try.prog 74 #[.slice a n cap] w fun e w' => e = .returned (.bool b) ∧ w = w' := by
  subst hb
  exact isPolynomial _ _ _ _ _ h
theorem checkedPoly_t (a : Option Addr) (n cap : Nat) (l : List Int) (w : World) (hb : M.isPoly l = true) (h : Ints .i64 w a n l) :
    Calls Try.prog 65 #[.slice a n cap] w fun e w' => e = .returned (.tuple #[.slice a n cap, .int .i64 0]) ∧ w = w' := by
  have HA := Lib.hid h
  have HB := Lib.hid hb
  clear h hb
  go_enter Try.func65, Try.ntmps65
  go_wp2_with (go_at_call 74; refine (isPolynomial_b _ _ _ l _ true HB.out HA.out).mono ?_; rintro e w' ⟨rfl, rfl⟩)
  go_ret2
  exact ⟨rfl, rfl⟩
theorem checkedPoly_f (a : Option Addr) (n cap : Nat) (l : List Int) (w : World) (hb : M.isPoly l = false) (h : Ints .i64 w a n l) :
    Calls Try.prog 65 #[.slice a n cap] w fun e w' => e = .returned (.tuple #[.slice none 0 0, .int .i64 3]) ∧ w = w' := by
  have HA := Lib.hid h
  have HB := Lib.hid hb
  clear h hb
  go_enter Try.func65, Try.ntmps65
  go_wp2_with (go_at_call 74; refine (isPolynomial_b _ _ _ l _ false HB.out HA.out).mono ?_; rintro e w' ⟨rfl, rfl⟩)
  go_ret2
  exact ⟨rfl, rfl⟩
set_option maxRecDepth 100000 in
set_option maxHeartbeats 1000000 in
theorem missing (d : Nat) (x : Int) (hx : x = d) (hd : d ≤ 12) (w : World) :
    Calls Try.prog 62 #[.int .i64 x] w fun e w' => ∃ g, w.heap.size ≤ g ∧ e = .returned (.slice (some ⟨g, 0, none⟩) d d) ∧ Own w' w.heap.size (.slice (some ⟨g, 0, none⟩) d d) ((List.range d).map fun _ => -1000000000000000) ∧ Below w.heap.size w w' := by
  subst hx
  have hlit := one_lit w (-1000000000000000)
  by_cases h0 : d = 0
  · subst h0
    go_enter Try.func62, Try.ntmps62
    go_wp2_with fail
    refine (repeat0 w.heap.size 1 (-1000000000000000) _ hlit).mono ?_
    rintro e w' ⟨rfl, ho, hb⟩
    rw [show (w.alloc (.cells #[.int .i64 (-1000000000000000)] 2)).heap.size = w.heap.size + 1 by simp] at ho
    have HO := Lib.hid ho
    have HB := Lib.hid hb
    clear ho hb hlit
    go_wp2
    go_ret
    exact ⟨_, Nat.le_succ _, rfl, HO.out.mono (Nat.le_succ _), bel1 HB.out⟩
  · go_enter Try.func62, Try.ntmps62
    go_wp2_with fail
    refine (repeat1 w.heap.size d 1 (-1000000000000000) _ (by omega) (by omega) hlit (by simp)).mono ?_
    rintro e w' ⟨rfl, ho, hb⟩
    rw [show (w.alloc (.cells #[.int .i64 (-1000000000000000)] 2)).heap.size = w.heap.size + 1 by simp] at ho
    have HO := Lib.hid ho
    have HB := Lib.hid hb
    clear ho hb hlit
    go_wp2
    go_ret
    exact ⟨_, Nat.le_succ _, rfl, HO.out.mono (Nat.le_succ _), bel1 HB.out⟩
end V
end Go.Proofs.Ytmobcobdpemlnaa

namespace Go.Proofs.Ytmobcobdpemlnaa
namespace M
def Low (s : List Int) : Prop := ∀ i, i < s.length → -1000000000000000 ≤ s.getD i 0
theorem low_gB {s : List Int} (h : Low s) (i : Nat) : -1000000000000000 ≤ gB s i := by
  unfold gB
  split
  · next k => exact h i k
  · omega
/-- A sum of which the first k elements of the second list have been added. -/
def addK (s l : List Int) (k : Nat) : List Int := (List.range (max s.length l.length)).map fun i => max (gB s i) (if i < k then gB l i else -1000000000000000)
theorem addK_len (s l : List Int) (k : Nat) : (addK s l k).length = max s.length l.length := by simp [addK]
theorem addK_get {s l : List Int} {k i : Nat} (hi : i < max s.length l.length) : (addK s l k).getD i 0 = max (gB s i) (if i < k then gB l i else -1000000000000000) := by simp [addK, hi]
theorem addK_zero {s l : List Int} (h : Low s) {d : Nat} (hd : d = l.length - s.length) : addK s l 0 = s ++ (List.range d).map fun _ => -1000000000000000 := by
  refine list_ext2 (by rw [addK_len]; simp; omega) fun i hi => ?_
  rw [addK_len] at hi
  rw [addK_get hi, if_neg (Nat.not_lt_zero i)]
  have := low_gB h i
  rw [Int.max_eq_left this]
  unfold gB
  by_cases e : i < s.length
  · rw [if_pos e, List.getD_eq_getElem?_getD, List.getD_eq_getElem?_getD, List.getElem?_append_left e]
  · rw [if_neg e, List.getD_eq_getElem?_getD, List.getElem?_append_right (by omega)]
    simp [show i - s.length < d by omega]
theorem addK_end {s l : List Int} {k : Nat} (hk : l.length ≤ k) : addK s l k = addL s l := by
  unfold addK addL
  refine List.map_congr_left fun i _ => ?_
  by_cases e : i < k
  · rw [if_pos e]
  · rw [if_neg e, gB, gB, if_neg (show ¬ i < l.length by omega)]
theorem addK_set {s l : List Int} {k : Nat} (hs : Low s) (hk : k < l.length) : (addK s l k).set k (max ((addK s l k).getD k 0) (l.getD k 0)) = addK s l (k + 1) := by
  rw [addK_get (by omega), if_neg (Nat.lt_irrefl k), Int.max_eq_left (low_gB hs k)]
  unfold addK
  rw [map_set]
  refine List.map_congr_left fun i hi => ?_
  by_cases e : i = k
  · subst e; rw [if_pos rfl, if_pos (Nat.lt_succ_self i), gB, gB, if_pos hk]
  · rw [if_neg e]
    by_cases e2 : i < k
    · rw [if_pos e2, if_pos (by omega)]
    · rw [if_neg e2, if_neg (by omega)]
theorem addL_low {s l : List Int} (hs : Low s) : Low (addL s l) := fun i hi => by
  rw [addL_len] at hi
  rw [addL_get hi]
  have := low_gB hs i
  omega
/-- What the lists ask of each other: none is longer by more than 12 than the sum of those before it, and none is very long. -/
def Steps (R : List (List Int)) : Prop := ∀ k, k < R.length → (R.getD k []).length ≤ ((R.take k).foldl addL []).length + 12 ∧ (R.getD k []).length ≤ 60
theorem fold_take {R : List (List Int)} {k : Nat} (hk : k < R.length) : (R.take (k + 1)).foldl addL [] = addL ((R.take k).foldl addL []) (R.getD k []) := by
  rw [List.take_succ_eq_append_getElem hk, List.foldl_append]
  simp [hk]
end M
namespace V
set_option maxRecDepth 100000
open Go.RowKit
/-- An owned list of integers is appended to another one. -/
theorem appendOwnI (w : World) {ops : Array Oper} {rest : List Oper} {o : Oper} {a : Act} {Q : Exit → Act → World → Prop} (hgd : o.guard = none) (s x : Operand)
    (ho : o.op = .call { callee := .builtin .append, args := #[s, x], argTypes := #[26, 26] }) (B : Nat) (v : Value) (l l2 : List Int) (hs : a.eval s = v) (hown : Own w B v l)
    {g n2 c2 m : Nat} {B2 : Nat} (hx : a.eval x = .slice (some ⟨g, 0, none⟩) n2 c2) (hI : Own w B2 (.slice (some ⟨g, 0, none⟩) n2 c2) l2) (hm : l.length + n2 = m) (hlen : m ≤ 2000000) (hB : B ≤ w.heap.size)
    (h : ∀ b' c' w', Own w' B (.slice b' m c') (l ++ l2) → Below B w w' → wpList Try.prog ops Q rest (a.put o.dst (.slice b' m c')) w') :
    wpList Try.prog ops Q (o :: rest) a w := by
  subst hm
  obtain ⟨i0, hi, hz0, hz1, hz2⟩ := info_parts info64
  have e1 : n2 = l2.length := hI.len
  have hc : ∀ j u, (l2.map (Value.int .i64))[j]? = some u → w.cell? ((⟨g, 0, none⟩ : Addr).add j) = some u := by
    intro j u hj
    have hjn : j < l2.length := by
      by_cases e : j < l2.length
      · exact e
      · rw [List.getElem?_eq_none (by simp; omega)] at hj; cases hj
    rw [Go.WideShapes.add_plain, Nat.zero_add, hI.cellAt j (by omega), ← hj]
    simp [hjn]
  refine wpList_append_own_at (w := w) hgd s x 26 ho B 2 i0 (.int .i64 0) 1 8 Try.underlying26 hi hz0 hz1 hz2 rfl (by decide) v _ _ hs hown ⟨g, 0, none⟩ n2 c2 (l2.map (Value.int .i64)) hx (by simp [e1]) hc ?c2 ?c3 ?c4 hB ?_
  case c2 => intro u hu; obtain ⟨x, _, rfl⟩ := List.mem_map.1 hu; rfl
  case c3 => unfold maxLen; omega
  case c4 => omega
  · intro v' w' hown' hgrow hz hvb
    have ho' : Own w' B v' (l ++ l2) := by
      show w'.ownsRow B _ 1 v' (l ++ l2).length ((l ++ l2).map (Value.int .i64))
      rw [List.length_append, ← e1, List.map_append]
      exact hown'
    obtain ⟨b', c', hv', _⟩ := own_form ho'
    rw [show (l ++ l2).length = l.length + n2 by rw [List.length_append, e1]] at hv'
    subst hv'
    exact h b' c' w' ho' ((Below.refl B w).grown hgrow hB (fun k hk => (own_lt hown hk).1))
theorem own_addr {w : World} {B n c : Nat} {a : Option Addr} {l : List Int} (h : Own w B (.slice a n c) l) (hn : 0 < n) : ∃ g, a = some ⟨g, 0, none⟩ ∧ B ≤ g ∧ g < w.heap.size := by
  obtain ⟨a', c', hv, _, _, hg⟩ := own_form h
  have e := h.len
  injection hv with e1 e2 e3
  subst e1
  exact hg (by omega)
end V
end Go.Proofs.Ytmobcobdpemlnaa

namespace Go.Proofs.Ytmobcobdpemlnaa
namespace M
theorem ply_any {l : List Int} {k : Nat} (hk : k < l.length) (h : l.getD k 0 ≠ -1000000000000000) : l.any (fun v => decide (v ≠ -1000000000000000)) = true := by
  rw [List.any_eq_true]
  refine ⟨l.getD k 0, ?_, by simpa using h⟩
  rw [List.getD_eq_getElem?_getD, List.getElem?_eq_getElem hk]; exact List.getElem_mem _
theorem ply_none {l : List Int} (h : ∀ k, k < l.length → l.getD k 0 = -1000000000000000) : l.any (fun v => decide (v ≠ -1000000000000000)) = false := by
  cases e : l.any (fun v => decide (v ≠ -1000000000000000)) with
  | false => rfl
  | true =>
    rw [List.any_eq_true] at e
    obtain ⟨x, hx, hp⟩ := e
    obtain ⟨i, hi, rfl⟩ := List.getElem_of_mem hx
    have := h i hi
    rw [List.getD_eq_getElem?_getD, List.getElem?_eq_getElem hi] at this
    simp at hp this
    exact absurd this hp
/-- A sum while the model makes it. -/
def addQ (c d : List Int) (k : Nat) : List Int := (List.range (max c.length k)).map fun i => max (gB c i) (if i < k then gB d i else -1000000000000000)
theorem addQ_len (c d : List Int) (k : Nat) : (addQ c d k).length = max c.length k := by simp [addQ]
theorem addQ_get {c d : List Int} {k i : Nat} (hi : i < max c.length k) : (addQ c d k).getD i 0 = max (gB c i) (if i < k then gB d i else -1000000000000000) := by simp [addQ, hi]
theorem low_poly {c : List Int} (h : isPoly c = true) : Low c := fun i hi => (isVal_bound ((isPoly_t h).2.2.1 i hi)).1
theorem addQ_zero {c d : List Int} (h : Low c) : addQ c d 0 = c := by
  refine list_ext2 (by rw [addQ_len]; omega) fun i hi => ?_
  rw [addQ_len] at hi
  rw [addQ_get hi, if_neg (Nat.not_lt_zero i), gB, if_pos (by omega)]
  have := h i (by omega)
  omega
theorem addQ_end (c d : List Int) : addQ c d d.length = addL c d := by
  unfold addQ addL
  refine List.map_congr_left fun i _ => ?_
  by_cases e : i < d.length
  · rw [if_pos e]
  · rw [if_neg e, gB, gB, if_neg e]
theorem addQ_snoc {c d : List Int} {k : Nat} (hk : c.length ≤ k) : addQ c d k ++ [-1000000000000000] = (List.range (k + 1)).map fun i => max (gB c i) (if i < k then gB d i else -1000000000000000) := by
  unfold addQ
  rw [List.range_succ, List.map_append, Nat.max_eq_right hk]
  simp only [List.map_cons, List.map_nil]
  rw [if_neg (Nat.lt_irrefl k), gB_ge hk]
  rfl
theorem addQ_set {c d : List Int} {k : Nat} (hc : Low c) (hk : k < d.length) : ((List.range (max c.length (k + 1))).map fun i => max (gB c i) (if i < k then gB d i else -1000000000000000)).set k (max (gB c k) (d.getD k 0)) = addQ c d (k + 1) := by
  unfold addQ
  rw [map_set]
  refine List.map_congr_left fun i hi => ?_
  by_cases e : i = k
  · subst e; rw [if_pos rfl, if_pos (Nat.lt_succ_self i)]; congr 1; exact (gB_lt hk).symm
  · rw [if_neg e]
    by_cases e2 : i < k
    · rw [if_pos e2, if_pos (by omega)]
    · rw [if_neg e2, if_neg (by omega)]
theorem addPRes_len (c d : List Int) : (addPRes c d).1.length ≤ 20 := by
  unfold addPRes
  cases h1 : isPoly c with
  | false => simp
  | true =>
    cases h2 : isPoly d with
    | false => simp
    | true =>
      have := (isPoly_t h1).2.1
      have := (isPoly_t h2).2.1
      simp only [Bool.and_self, if_true, addL_len]
      omega
end M
namespace V
set_option maxRecDepth 100000
open Go.RowKit
/-- A matrix of two rows that are not its own. -/
theorem mat_two (w : World) (a a' : Option Addr) (n n' cap cap' : Nat) (l l' : List Int) (h : Ints .i64 w a n l) (h' : Ints .i64 w a' n' l') : Mat (w.alloc (.cells #[.slice a n cap, .slice a' n' cap'] 26)) (some ⟨w.heap.size, 0, none⟩) 2 [l, l'] := by
  refine ⟨rfl, by decide, .inr ⟨_, _, rfl, by simp, fun i hi => ?_⟩⟩
  have hi2 : i = 0 ∨ i = 1 := by omega
  rcases hi2 with rfl | rfl
  · refine ⟨a, cap, ?_, ?_⟩
    · show _ = some (Value.slice a l.length cap)
      rw [h.1]; simp
    · show Ints _ _ _ l.length l
      rw [h.1]; exact h.below (b_alloc w _)
  · refine ⟨a', cap', ?_, ?_⟩
    · show _ = some (Value.slice a' l'.length cap')
      rw [h'.1]; simp
    · show Ints _ _ _ l'.length l'
      rw [h'.1]; exact h'.below (b_alloc w _)
set_option maxRecDepth 100000 in
set_option maxHeartbeats 1000000 in
theorem sIsPolynomial (a : Option Addr) (n cap : Nat) (l : List Int) (w : World) (h : Ints .i64 w a n l) :
    Calls Try.prog 67 #[.slice a n cap] w fun e w' => e = .returned (.bool (M.isPoly l)) ∧ w = w' := by
  have HI := Lib.hid h
  have hl := h.1
  have hm := h.2.1
  unfold maxLen at hm
  have HL := Lib.hid hl
  by_cases h12 : 12 < n
  · have HE : Hid (M.isPoly l = false) := M.isPoly_long (by omega)
    have h13 : ¬ (n : Int) ≤ 12 := by omega
    have h14 : (n : Int) > 12 := by omega
    clear hl h
    go_enter Try.func67, Try.ntmps67
    go_wp2
    go_ret
    exact ⟨retB HE.out.symm, rfl⟩
  · have h13 : (n : Int) ≤ 12 := by omega
    have h14 : ¬ (n : Int) > 12 := by omega
    obtain ⟨v, hv⟩ : ∃ v, v = l.all M.isVal := ⟨_, rfl⟩
    have HV := Lib.hid hv
    cases v with
    | false =>
      have HE : Hid (M.isPoly l = false) := M.isPoly_val hv.symm
      clear hl hv h
      go_enter Try.func67, Try.ntmps67
      go_wp2_with fail
      refine (sAll _ _ _ l _ HI.out).mono ?_
      rintro e w' ⟨rfl, rfl⟩
      rw [← HV.out]
      go_wp2
      go_ret
      exact ⟨retB HE.out.symm, rfl⟩
    | true =>
      have HE : Hid (1 ≤ n → M.isPoly l = l.any (fun v => decide (v ≠ -1000000000000000))) := fun h1 => M.isPoly_rest (by omega) (by omega) hv.symm
      have H0 : Hid (n = 0 → M.isPoly l = false) := fun h0 => M.isPoly_len0 (by omega)
      clear hl hv h
      go_enter Try.func67, Try.ntmps67
      go_wp2_with fail
      refine (sAll _ _ _ l _ HI.out).mono ?_
      rintro e w' ⟨rfl, rfl⟩
      rw [← HV.out]
      go_wp2
      go_loop [3] (fun i => ∃ k : Nat, k ≤ n ∧ i = .int .i64 k ∧ Hid (∀ j, j < k → l.getD j 0 = -1000000000000000)) (fun i => n - (intOf i).toNat)
      case atStart => exact ⟨0, Nat.zero_le _, rfl, fun j hj => absurd hj (Nat.not_lt_zero j)⟩
      case round =>
        obtain ⟨k, hk, rfl, HA⟩ := hrel
        by_cases hlt : k < n
        · have hki : (k : Int) < (n : Int) := by omega
          obtain ⟨b, off, x, rfl, -, hx, hc⟩ := HI.out.at k hlt
          have HX := Lib.hid hx
          clear hx
          by_cases hB : x = -1000000000000000
          · subst hB
            go_wp2
            go_round
            case rel =>
              refine ⟨k + 1, by omega, by go_num, fun j hj => ?_⟩
              by_cases e : j = k
              · subst e; exact HX.out.symm
              · exact HA.out j (by omega)
            case measure => simp [intOf]; omega
          · have hne : (x != -1000000000000000) = true := by simpa using hB
            have hne2 : (x == -1000000000000000) = false := by simpa using hB
            go_wp2
            go_ret
            exact ⟨retB (by rw [HE.out (by omega)]; exact (M.ply_any (k := k) (by have := HL.out; omega) (by rw [← HX.out]; exact hB)).symm), rfl⟩
        · obtain rfl : k = n := by omega
          go_wp2
          go_ret
          refine ⟨retB ?_, rfl⟩
          by_cases h0 : k = 0
          · exact (H0.out h0).symm
          · rw [HE.out (by omega)]
            exact (M.ply_none fun j hj => HA.out j (by have := HL.out; omega)).symm
theorem sIsPolynomial_b (a : Option Addr) (n cap : Nat) (l : List Int) (w : World) (b : Bool) (hb : M.isPoly l = b) (h : Ints .i64 w a n l) :
    Calls Try.prog 67 #[.slice a n cap] w fun e w' => e = .returned (.bool b) ∧ w = w' := by
  subst hb
  exact sIsPolynomial _ _ _ _ _ h
theorem sIsPolynomialB (a : Option Addr) (n cap : Nat) (l : List Int) (w : World) (h : Ints .i64 w a n l) :
    Calls Try.prog 67 #[.slice a n cap] w fun e w' => e = .returned (.bool (M.isPoly l)) ∧ Below w.heap.size w w' := by
  refine (sIsPolynomial _ _ _ _ _ h).mono ?_
  rintro e w' ⟨rfl, rfl⟩
  exact ⟨rfl, Below.refl _ _⟩
end V
end Go.Proofs.Ytmobcobdpemlnaa

namespace Go.Proofs.Ytmobcobdpemlnaa
namespace M
theorem vec_all {x : List Int} (h1 : 1 ≤ x.length) (h2 : x.length ≤ 10) : isVec x = x.all isVal := by
  unfold isVec
  rw [decide_eq_true h1, decide_eq_true h2]; rfl
theorem fin_all {x : List Int} (h : ∀ i, i < x.length → x.getD i 0 ≠ -1000000000000000) : x.all isFin = x.all isVal := by
  rw [Bool.eq_iff_iff, List.all_eq_true, List.all_eq_true]
  constructor
  · intro k v hv
    have := k v hv
    unfold isVal
    rw [this, Bool.or_true]
  · intro k v hv
    obtain ⟨i, hi, rfl⟩ := List.mem_iff_getElem.1 hv
    have h1 := h i hi
    rw [List.getD_eq_getElem?_getD, List.getElem?_eq_getElem hi] at h1
    have h1 : x[i] ≠ -1000000000000000 := h1
    have h2 := k _ hv
    unfold isVal at h2
    rw [Bool.or_eq_true, decide_eq_true_iff] at h2
    rcases h2 with h2 | h2
    · exact absurd h2 h1
    · exact h2
theorem dualU_nb {R : List (List Int)} (h : Sq R) (B : Bst R) {i : Nat} (hi : i < R.length) : 0 ≤ (dualU R).getD i 0 ∧ (dualU R).getD i 0 ≤ 11000011000000 := by
  have h1 := zp_sm h.1 (fun i j hi hj => sm_up (B.sm i j hi hj) (by omega)) B.noP hi
  have h2 := h1.1
  unfold Sm at h2
  have h3 : 0 ≤ (dualU R).getD i 0 := h1.2.1
  have h2 : (dualU R).getD i 0 = -1000000000000000 ∨ (-11000011000000 ≤ (dualU R).getD i 0 ∧ (dualU R).getD i 0 ≤ 11000011000000) := h2
  omega
theorem dual_fins {R : List (List Int)} (hs : sqB R = true) (B : Bst R) : (dualU R).all isFin = isVec (dualU R) ∧ (dualV R R.length).all isFin = isVec (dualV R R.length) := by
  have h := sq_is hs
  have hm := isMat_t (sqB_t hs).1
  have hul : (dualU R).length = R.length := zp_len _ _
  have hvl := dualV_len R R.length
  constructor
  · rw [vec_all (by omega) (by omega)]
    exact fin_all fun i hi => by have := (dualU_nb h B (i := i) (by omega)); omega
  · rw [vec_all (by omega) (by omega)]
    refine fin_all fun j hj => ?_
    obtain ⟨k, hk, rfl⟩ := col_row B (j := j) (by omega)
    have h1 := dualV_at B R.length (Nat.le_refl _) k hk
    have h2 := dualU_nb h B hk
    have h3 := (B.col k hk).2.2
    rw [h1]
    omega
end M
end Go.Proofs.Ytmobcobdpemlnaa

namespace Go.Proofs.Ytmobcobdpemlnaa.V
open Go.RowKit

set_option maxRecDepth 100000 in
set_option maxHeartbeats 400000 in
theorem sSame (a : Option Addr) (n cap : Nat) (l : List Int) (a' : Option Addr) (n' cap' : Nat) (l' : List Int) (w : World) (h : Ints .i64 w a n l) (h' : Ints .i64 w a' n' l') :
    Calls Try.prog 123 #[.slice a n cap, .slice a' n' cap'] w fun e w' => ∃ b, e = .returned (.bool b) ∧ Hid (b = decide (l = l')) ∧ ∃ q, w' = w.drewN q := by
  have HI := Lib.hid h
  have HI' := Lib.hid h'
  have HL := Lib.hid h.1
  have HL' := Lib.hid h'.1
  have hm := h.2.1
  unfold maxLen at hm
  clear h h'
  by_cases hn : n = n'
  · subst hn
    have hD0 : Hid (∀ i, i < 0 → l.getD i 0 = l'.getD i 0) := fun i hi => absurd hi (Nat.not_lt_zero i)
    go_enter Try.func123, Try.ntmps123
    go_wp2
    go_loopw [5] (fun i wr => ∃ k : Nat, k ≤ n ∧ i = .int .i64 k ∧ Hid (∀ i, i < k → l.getD i 0 = l'.getD i 0) ∧ ∃ q, wr = w.drewN q) (fun i _ => n - (intOf i).toNat)
    case atStart => exact ⟨0, Nat.zero_le _, rfl, hD0, 0, rfl⟩
    case round =>
      obtain ⟨k, hk, rfl, HD, q2, rfl⟩ := hrel
      clear hD0
      by_cases hlt : k < n
      · have hki : (k : Int) < (n : Int) := by omega
        obtain ⟨b, off, x, rfl, hd, hx, c1⟩ := HI.out.at k hlt
        obtain ⟨b', off', y, rfl, hd', hy, c2⟩ := HI'.out.at k hlt
        have HX := Lib.hid hx
        have HY := Lib.hid hy
        clear hx hy hd hd'
        by_cases e : x = y
        · have HD2 : Hid (∀ i, i < k + 1 → l.getD i 0 = l'.getD i 0) := fun i hi => by
            by_cases ei : i = k
            · subst ei; rw [← HX.out, ← HY.out, e]
            · exact HD.out i (by omega)
          subst e
          go_wp2
          go_quiet (fail)
          go_wp2
          go_roundw
          case rel => exact ⟨k + 1, by omega, by go_num, HD2, _, rfl⟩
          case measure => simp [intOf]; omega
        · have e2 : (x == y) = false := by simpa using e
          have e3 : (x != y) = true := by simpa using e
          have HF : Hid (l ≠ l') := fun he => e (by rw [HX.out, HY.out, he])
          go_wp2
          go_quiet (fail)
          go_wp2
          go_ret
          exact ⟨_, rfl, (decide_eq_false HF.out).symm, _, World.drewN_drewN _ _ _⟩
      · obtain rfl : k = n := by omega
        have HF : Hid (l = l') := by
          show l = l'
          apply List.ext_getElem
          · rw [HL.out, HL'.out]
          · intro i h1 h2
            have := HD.out i (by have := HL.out; omega)
            simpa [h1, h2] using this
        go_wp2
        go_ret
        exact ⟨_, rfl, (decide_eq_true HF.out).symm, _, rfl⟩
  · have e2 : (n == n') = false := by simpa using hn
    have e3 : ((n : Int) != (n' : Int)) = true := by simp; omega
    have HF : Hid (l ≠ l') := fun he => hn (by rw [← HL.out, ← HL'.out, he])
    go_enter Try.func123, Try.ntmps123
    go_wp2
    go_ret
    exact ⟨_, rfl, (decide_eq_false HF.out).symm, 0, rfl⟩

set_option maxRecDepth 100000 in
set_option maxHeartbeats 1000000 in
theorem sSameM (a : Option Addr) (n cap : Nat) (R : List (List Int)) (a' : Option Addr) (cap' : Nat) (R' : List (List Int)) (w : World) (h : Mat w a n R) (h' : Mat w a' n R') (hn : n ≤ 1000) :
    Calls Try.prog 96 #[.slice a n cap, .slice a' n cap'] w fun e w' => e = .returned (.bool (decide (R = R'))) ∧ ∃ q, w' = w.drewN q := by
  have HA := Lib.hid h
  have HA' := Lib.hid h'
  have HL := Lib.hid h.1
  have HL' := Lib.hid h'.1
  clear h h'
  have hD0 : Hid (∀ i, i < 0 → R.getD i [] = R'.getD i []) := fun i hi => absurd hi (Nat.not_lt_zero i)
  go_enter Try.func96, Try.ntmps96
  go_wp2
  go_loopw [5] (fun i wr => ∃ k : Nat, k ≤ n ∧ i = .int .i64 k ∧ Hid (∀ i, i < k → R.getD i [] = R'.getD i []) ∧ ∃ q, wr = w.drewN q) (fun i _ => n - (intOf i).toNat)
  case atStart => exact ⟨0, Nat.zero_le _, rfl, hD0, 0, rfl⟩
  case round =>
    obtain ⟨k, hk, rfl, HD, q2, rfl⟩ := hrel
    clear hD0
    by_cases hlt : k < n
    · have hki : (k : Int) < (n : Int) := by omega
      obtain ⟨b, off, ra, rc, L, l, rfl, hb, hl, hc, hI⟩ := HA.out.at k hlt
      obtain ⟨b', off', ra', rc', L', l', rfl, hb', hl', hc', hI'⟩ := HA'.out.at k hlt
      have HI := Lib.hid hI
      have HI' := Lib.hid hI'
      have HX := Lib.hid hl
      have HY := Lib.hid hl'
      obtain ⟨z, hz⟩ : ∃ z, z = decide (l = l') := ⟨_, rfl⟩
      have HZ := Lib.hid hz
      have HC : ∀ q3, Calls Try.prog 123 #[.slice ra L rc, .slice ra' L' rc'] (w.drewN q3) fun e w' => e = .returned (.bool z) ∧ ∃ q, w' = (w.drewN q3).drewN q := by
        intro q3
        refine (sSame _ _ _ _ _ _ _ _ _ (HI.out.below (b_draws w _)) (HI'.out.below (b_draws w _))).mono ?_
        rintro e w' ⟨b, rfl, hb, hq⟩
        exact ⟨by rw [HZ.out, hb.out], hq⟩
      clear hl hl' hI hI' hz hb hb'
      cases z with
      | true =>
        have HD2 : Hid (∀ i, i < k + 1 → R.getD i [] = R'.getD i []) := fun i hi => by
          by_cases ei : i = k
          · subst ei; rw [← HX.out, ← HY.out]; exact of_decide_eq_true HZ.out.symm
          · exact HD.out i (by omega)
        go_wp2
        go_quiet ((go_at_call 123; exact q_more (HC _)))
        go_wp2
        go_roundw
        case rel => exact ⟨k + 1, by omega, by go_num, HD2, _, rfl⟩
        case measure => simp [intOf]; omega
      | false =>
        have HF : Hid (R ≠ R') := fun he => of_decide_eq_false HZ.out.symm (by rw [HX.out, HY.out, he])
        go_wp2
        go_quiet ((go_at_call 123; exact q_more (HC _)))
        go_wp2
        go_ret
        exact ⟨retB (decide_eq_false HF.out).symm, _, World.drewN_drewN _ _ _⟩
    · obtain rfl : k = n := by omega
      have HF : Hid (R = R') := by
        show R = R'
        apply List.ext_getElem
        · rw [HL.out, HL'.out]
        · intro i h1 h2
          have := HD.out i (by have := HL.out; omega)
          simpa [h1, h2] using this
      go_wp2
      go_ret
      exact ⟨retB (decide_eq_true HF.out).symm, _, rfl⟩

set_option maxRecDepth 100000 in
set_option maxHeartbeats 1000000 in
theorem sStar (a : Option Addr) (n cap : Nat) (R : List (List Int)) (w : World) (h : Sq w a n R) :
    Calls Try.prog 49 #[.slice a n cap] w fun e w' => ∃ b c, e = .returned (.tuple #[.slice b n c, .bool (M.noPos (M.ent R) n)]) ∧ OwnM w' w.heap.size (.slice b n c) (M.bmM R n n) ∧ Below w.heap.size w w' := by
  have HS := Lib.hid h
  obtain ⟨n1, n2⟩ := h.2.2.2
  have HSm : Hid (∀ i j, i < n → j < n → M.Sm 1000001000000 (M.ent R i j)) := h.2.2.1
  have HRB : Hid (∀ i j, i < n → j < n → M.Big (M.ent R i j)) := fun i j hi hj => M.big_sm (HSm.out i j hi hj) (by omega)
  have HBB : Hid (∀ t, t ≤ n → ∀ i j, i < n → j < n → M.Big (M.ent (M.bmM R n t) i j)) := fun t ht i j hi hj => M.bm_big HSm.out (by omega) hi hj
  clear h
  go_enter Try.func49, Try.ntmps49
  go_wp2_with (go_at_call 93; refine (sUnit n _ (by omega)).mono ?_; rintro e w1 ⟨a2, cap2, rfl, hO, hb⟩; rw [M.bm_zero R] at hO; have HO0 := Lib.hid hO; have HB0 := Lib.hid hb; clear hO hb)
  go_loopw [5, 6] (fun o i wr => ∃ (k : Nat) (b : Option Addr) (c : Nat), k ≤ n ∧ i = .int .i64 k ∧ o = .slice b n c ∧ OwnM wr w.heap.size (.slice b n c) (M.bmM R n k) ∧ Below w.heap.size w wr) (fun _ i _ => n - (intOf i).toNat)
  case atStart => exact ⟨0, _, _, Nat.zero_le _, rfl, rfl, HO0.out, HB0.out⟩
  case round =>
    obtain ⟨k, b, c, hk, rfl, rfl, hO, hb⟩ := hrel
    obtain ⟨wo, rfl⟩ : ∃ x, x = wr := ⟨_, rfl⟩
    have HO := Lib.hid hO
    have HB := Lib.hid hb
    clear hO hb HO0 HB0
    by_cases hlt : k < n
    · have hki : (k : Int) < (n : Int) := by omega
      go_wp2_with fail
      refine (sUnit n _ (by omega)).mono ?_
      rintro e w2 ⟨a3, cap3, rfl, hU, hb2⟩
      have HU2 := Lib.hid hU
      have HB2 := Lib.hid (bnext HB.out hb2)
      have HO2 := Lib.hid (HO.out.below hb2)
      clear hU hb2 HO HB
      go_wp2_with fail
      refine (sMultiplyB _ _ _ n R _ _ n (M.bmM R n k) _ (HS.out.1.below HB2.out) HO2.out.mat HS.out.2.1 (rect_mk _ _ _) HRB.out (HBB.out k (by omega)) n1 n2 n1 n2 n1 n2).mono ?_
      rintro e w3 ⟨a4, cap4, rfl, hP, hb3⟩
      have HP3 := Lib.hid hP
      have HB3 := Lib.hid (bnext HB2.out hb3)
      have HU3 := Lib.hid (HU2.out.below hb3)
      clear hP hb3 HO2 HU2
      go_wp2_with fail
      refine (sAddB _ _ _ _ _ _ _ n _ HU3.out.mat HP3.out.mat (rect_mk _ _ _) (rect_mk _ _ _) n1 n2 n1 n2).mono ?_
      rintro e w4 ⟨a5, cap5, rfl, hN, hb4⟩
      rw [M.bm_step] at hN
      have HN4 := Lib.hid (hN.mono HB3.out.size)
      have HB4 := Lib.hid (bnext HB3.out hb4)
      clear hN hb4 HU3 HP3
      go_wp2
      go_roundw
      case rel => exact ⟨k + 1, _, _, by omega, by go_num, rfl, HN4.out, HB4.out⟩
      case measure => simp [intOf]; omega
    · obtain rfl : k = n := by omega
      go_wp2_with fail
      refine (sUnit k _ (by omega)).mono ?_
      rintro e w2 ⟨a3, cap3, rfl, hU, hb2⟩
      have HU2 := Lib.hid hU
      have HB2 := Lib.hid (bnext HB.out hb2)
      have HO2 := Lib.hid (HO.out.below hb2)
      clear hU hb2 HO HB
      go_wp2_with fail
      refine (sMultiplyB _ _ _ k R _ _ k (M.bmM R k k) _ (HS.out.1.below HB2.out) HO2.out.mat HS.out.2.1 (rect_mk _ _ _) HRB.out (HBB.out k (by omega)) n1 n2 n1 n2 n1 n2).mono ?_
      rintro e w3 ⟨a4, cap4, rfl, hP, hb3⟩
      have HP3 := Lib.hid hP
      have HB3 := Lib.hid (bnext HB2.out hb3)
      have HU3 := Lib.hid (HU2.out.below hb3)
      have HO3 := Lib.hid (HO2.out.below hb3)
      clear hP hb3 HO2 HU2
      go_wp2_with fail
      refine (sAddB _ _ _ _ _ _ _ k _ HU3.out.mat HP3.out.mat (rect_mk _ _ _) (rect_mk _ _ _) n1 n2 n1 n2).mono ?_
      rintro e w4 ⟨a5, cap5, rfl, hN, hb4⟩
      rw [M.bm_step] at hN
      have HN4 := Lib.hid hN
      have HB4 := Lib.hid (bnext HB3.out hb4)
      have HO4 := Lib.hid (HO3.out.below hb4)
      clear hN hb4 HU3 HP3 HO3
      go_wp2_with fail
      refine (sSameM _ _ _ _ _ _ _ _ HN4.out.mat HO4.out.mat (by omega)).mono ?_
      rintro e w5 ⟨rfl, q, rfl⟩
      rw [M.bm_same n2 HSm.out]
      go_wp2
      go_ret2
      exact ⟨_, _, rfl, HO4.out.below (b_draws _ _), below_drewN HB4.out _⟩
end Go.Proofs.Ytmobcobdpemlnaa.V

namespace Go.Proofs.Ytmobcobdpemlnaa.V
open Go.RowKit



end Go.Proofs.Ytmobcobdpemlnaa.V
