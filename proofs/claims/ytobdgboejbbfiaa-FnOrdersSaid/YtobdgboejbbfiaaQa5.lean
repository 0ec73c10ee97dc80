/- Texts laid together: IAdd, IMul, Pth2, Pth3, Pth4, It0. -/
import Derived.Test.YtobdgboejbbfiaaRows
import Derived.Test.YtobdgboejbbfiaaQa1
import Derived.Test.YtobdgboejbbfiaaQa3
import Derived.WalkKit
import Derived.ProofKit
import Derived.WalkSmall
import Derived.Deep.QuietTactic
import Derived.BigQuiet
import Derived.BigRegion
import Derived.Deep.Draws
import Derived.Lib.Hide
import Derived.OpenShut
import Derived.Deep.OwnRows
import Derived.Test.YtobdgboejbbfiaaQa4
import Derived.StillTailTactics
import Derived.IntWalk
import Derived.Deep.RegionWith
import Derived.Deep.RegionHeld3
import Derived.Deep.AppendLies
import Derived.RangeFuncNested
import Derived.RangeFuncBound
import Derived.RangeFuncCalls
import Derived.RangeFuncLeaves
import Derived.Shelf.Abstract
import Derived.OwnWalkIn
import Derived.TacticsInMore
import Derived.LoopNIn
import Derived.LoopIn
import Derived.Test.YtobdgboejbbfiaaProg
set_option linter.unusedSimpArgs false
set_option linter.unusedVariables false
set_option linter.unusedSectionVars false
namespace Go.Proofs.Ytobdgboejbbfiaa.V
open Go.RowKit

set_option maxRecDepth 100000 in
set_option maxHeartbeats 400000 in
theorem clPlus (a b : Int) (w : World) : Calls Try.prog 155 #[.int .i64 a, .int .i64 b] w fun e w' => e = .returned (.int .i64 (max a b)) ∧ w = w' := by
  go_enter Try.func155, Try.ntmps155
  go_wp2_with (first | (go_at_call 156; refine (plus _ _ _).mono ?_; rintro e w' ⟨rfl, rfl⟩))
  go_ret
  exact ⟨rfl, rfl⟩

/-- The pair of operations. -/
theorem maxPlus (w : World) : Calls Try.prog 137 #[] w fun e w' => e = .returned (.agg #[.func (.func 155) #[] #[], .func (.func 157) #[] #[]]) ∧ Below w.heap.size w w' := by
  have hst : ∀ (w : World) (a : Addr) (f : Fn), (store a (.func f #[] #[])).run Try.prog w = stored Try.prog w a (.func f #[] #[]) .plain := fun w a f => run_store _ w a _ _ rfl
  go_enter Try.func137, Try.ntmps137
  go_wp2
  exact bodyPost_ret (v := .agg #[.func (.func 155) #[] #[], .func (.func 157) #[] #[]]) (by simp [results, Try.results137, go_sem]) rfl ⟨rfl, b_alloc _ _⟩

theorem fld0 (w : World) (f g : Fn) : (Instr.field 133 (.agg #[.func f #[] #[], .func g #[] #[]]) 0).run Try.prog w = .ok (.func f #[] #[]) w := by
  simp [Instr.field, part, asAgg, go_sem]
end Go.Proofs.Ytobdgboejbbfiaa.V

namespace Go.Proofs.Ytobdgboejbbfiaa.V
open Go.RowKit

set_option maxRecDepth 100000 in
set_option maxHeartbeats 400000 in
theorem timesB (a b : Int) (w : World) (ha : M.Big a) (hb : M.Big b) : Calls Try.prog 158 #[.int .i64 a, .int .i64 b] w fun e w' => e = .returned (.int .i64 (M.times a b)) ∧ w = w' := by
  have ba := M.big_bound ha
  have bb := M.big_bound hb
  clear ha hb
  obtain ⟨ba1, ba2⟩ := ba
  obtain ⟨bb1, bb2⟩ := bb
  by_cases h : a = -1000000000000000
  · subst h
    go_enter Try.func158, Try.ntmps158
    go_wp2
    all_goals go_ret; exact ⟨retI (by simp [M.times]), rfl⟩
  · have h' : (a == -1000000000000000) = false := by simpa using h
    by_cases h2 : b = -1000000000000000
    · subst h2
      go_enter Try.func158, Try.ntmps158
      go_wp2
      all_goals go_ret; exact ⟨retI (by simp [M.times]), rfl⟩
    · have h2' : (b == -1000000000000000) = false := by simpa using h2
      go_enter Try.func158, Try.ntmps158
      go_wp2
      all_goals go_ret; exact ⟨retI (by simp [M.times, h, h2]), rfl⟩

set_option maxRecDepth 100000 in
set_option maxHeartbeats 400000 in
theorem clTimes (a b : Int) (w : World) (ha : M.Big a) (hb : M.Big b) : Calls Try.prog 157 #[.int .i64 a, .int .i64 b] w fun e w' => e = .returned (.int .i64 (M.times a b)) ∧ w = w' := by
  have HA := Lib.hid ha
  have HB := Lib.hid hb
  clear ha hb
  go_enter Try.func157, Try.ntmps157
  go_wp2_with (first | (go_at_call 158; refine (timesB _ _ _ HA.out HB.out).mono ?_; rintro e w' ⟨rfl, rfl⟩))
  go_ret
  exact ⟨rfl, rfl⟩

end Go.Proofs.Ytobdgboejbbfiaa.V

namespace Go.Proofs.Ytobdgboejbbfiaa.V
open Go.RowKit

/-- A square matrix of values. -/
def Sq (w : World) (a : Option Addr) (n : Nat) (R : List (List Int)) : Prop := Mat w a n R ∧ Rect R n n ∧ (∀ i j, i < n → j < n → M.Sm 1000001000000 (M.ent R i j)) ∧ 1 ≤ n ∧ n ≤ 10
theorem sq_of {w : World} {a : Option Addr} {n : Nat} {R : List (List Int)} (h : Mat w a n R) (hs : M.sqB R = true) : Sq w a n R := by
  obtain ⟨h1, h2⟩ := M.sqB_t hs
  have hr := rect_mat h1
  obtain ⟨m1, m2, -⟩ := M.isMat_t h1
  rw [← h2, h.1] at hr
  rw [h.1] at m1 m2
  exact ⟨h, hr, fun i j hi hj => M.sm_wide (M.sm_val (tm_val h1 hr m1 hi hj)), m1, m2⟩
theorem Sq.below {w w' : World} {a : Option Addr} {n : Nat} {R : List (List Int)} (h : Sq w a n R) (hb : Below w.heap.size w w') : Sq w' a n R := ⟨h.1.below hb, h.2⟩
theorem Sq.arc {w : World} {a : Option Addr} {n : Nat} {R : List (List Int)} {l : List Int} (h : Sq w a n R) (hv : M.nodesB n l = true) {i j : Nat} (hi : i < l.length) (hj : j < l.length) : M.Sm 1000001000000 (M.ent R (M.vx l i) (M.vx l j)) :=
  h.2.2.1 _ _ (M.vx_lt hv hi) (M.vx_lt hv hj)
/-- The weights along a list of nodes are near to 0. -/
theorem Sq.along {w : World} {a : Option Addr} {n : Nat} {R : List (List Int)} {l : List Int} (h : Sq w a n R) (hv : M.nodesB n l = true) {t : Nat} (ht : t < l.length) : M.Sm (1000001000000 * t) (M.wkc (M.ent R) (M.vx l) t) :=
  M.wkc_sm fun u hu => h.arc hv (by omega) (by omega)
theorem wn_big {L v : Int} {t : Nat} (h : M.Sm (1000001000000 * t) v) (ht : t ≤ 99) : M.Big v := M.big_sm h (by omega)



end Go.Proofs.Ytobdgboejbbfiaa.V

namespace Go.Proofs.Ytobdgboejbbfiaa.V
open Go.RowKit

theorem caps_own {w : World} {B n cap : Nat} {a : Option Addr} {l : List Int} (h : Own w B (.slice a n cap) l) : n ≤ cap ∧ cap ≤ maxLen := by
  obtain ⟨a', c', hv, h1, h2, _⟩ := own_form h
  injection hv with e1 e2 e3
  subst e2 e3
  exact ⟨h1, h2⟩
theorem has_snoc (l : List Int) (k : Nat) (h : k < l.length) (x : Int) : M.hasB (l.take (k + 1)) x = (M.hasB (l.take k) x || decide (x = l.getD k 0)) := by
  rw [M.take_snoc l k h, Bool.eq_iff_iff]
  simp [M.hasB, List.contains_iff_mem]


set_option maxRecDepth 100000 in
set_option maxHeartbeats 400000 in
theorem sHas (a' : Option Addr) (N cap' : Nat) (l : List Int) (x : Int) (w : World) (h : Ints .i64 w a' N l) :
    Calls Try.prog 116 #[.slice a' N cap', .int .i64 x] w fun e w' => e = .returned (.bool (M.hasB l x)) ∧ w = w' := by
  obtain ⟨hl, hm, hr⟩ := h
  unfold maxLen at hm
  have HL := Lib.hid hl
  clear hl
  go_enter Try.func116, Try.ntmps116
  go_wp2
  go_loop [5] (fun i => ∃ k : Nat, k ≤ N ∧ i = .int .i64 k ∧ Hid (M.hasB (l.take k) x = false)) (fun i => N - (intOf i).toNat)
  case atStart => exact ⟨0, Nat.zero_le _, rfl, rfl⟩
  case round =>
    obtain ⟨k, hk, rfl, HA⟩ := hrel
    by_cases hlt : k < N
    · rcases hr with h0 | ⟨b, off, rfl, hbl, hc⟩
      · omega
      · have hck := hc k hlt
        have hsn := has_snoc l k (by have := HL.out; omega) x
        obtain ⟨y, hy⟩ : ∃ y, y = l.getD k 0 := ⟨_, rfl⟩
        rw [← hy] at hck hsn
        have HY := Lib.hid hy
        have HS := Lib.hid hsn
        clear hc hy hsn
        by_cases hv : y = x
        · subst hv
          have HF : Hid (M.hasB l y = true) := by
            show _ = _
            rw [M.hasB_iff]
            have : k < l.length := by have := HL.out; omega
            have e := HY.out
            simp only [List.getD_eq_getElem?_getD, List.getElem?_eq_getElem this, Option.getD_some] at e
            rw [e]; exact List.getElem_mem this
          go_wp2
          go_ret
          exact ⟨retB HF.out.symm, rfl⟩
        · have HA2 : Hid (M.hasB (l.take (k + 1)) x = false) := by
            show _ = _; rw [HS.out, HA.out]; simp; omega
          have hv2 : (y == x) = false := by simpa using hv
          go_wp2
          go_round
          case rel => exact ⟨k + 1, by omega, by go_num, HA2⟩
          case measure => simp [intOf]; omega
    · have hkn : k = N := by omega
      subst hkn
      have HT : Hid (l.take k = l) := M.take_all l k (by have := HL.out; omega)
      clear hr
      go_wp2
      go_ret
      exact ⟨retB (by have h2 := HA.out; rw [HT.out] at h2; exact h2.symm), rfl⟩
theorem ints_take {w : World} {a : Option Addr} {n : Nat} {l : List Int} (h : Ints .i64 w a n l) (k : Nat) (hk : k ≤ n) : Ints .i64 w a k (l.take k) := by
  obtain ⟨h1, h2, h3⟩ := h
  refine ⟨by rw [List.length_take]; omega, by omega, ?_⟩
  rcases h3 with h0 | ⟨b, off, rfl, hb, hc⟩
  · left; omega
  · right
    refine ⟨b, off, rfl, hb, fun i hi => ?_⟩
    rw [hc i (by omega)]
    simp [List.getD_eq_getElem?_getD, List.getElem?_take, hi]
end Go.Proofs.Ytobdgboejbbfiaa.V

namespace Go.Proofs.Ytobdgboejbbfiaa.V
open Go.RowKit

/-- One integer is appended to an owned list, at a step of a region. -/
theorem step_append1 (w : World) {ops : Array Oper} {o : Oper} {a : Act} {K : Act → World → Prop} {Q : Exit → Act → World → Prop} {E : Prop} (hgd : o.guard = none) (s x : Operand)
    (ho : o.op = .call { callee := .builtin .append, args := #[s, x], argTypes := #[28, 28] }) (B : Nat) (v : Value) (l : List Int) (y : Int) (g n : Nat) (hn : l.length = n) (hs : a.eval s = v) (hown : Own w B v l)
    (hx : a.eval x = .slice (some ⟨g, 0, none⟩) 1 1) (hy : w.cell? ⟨g, 0, none⟩ = some (.int .i64 y)) (hlen : n ≤ 2000000) (hB : B ≤ w.heap.size)
    (h : ∀ b' c' w', Own w' B (.slice b' (n + 1) c') (l ++ [y]) → Below B w w' → K (a.put o.dst (.slice b' (n + 1) c')) w') :
    if Region.wanted o (yielded ops a.tmps) = true then Oper.wp Try.prog o a w K Q else E := by
  subst hn
  obtain ⟨i0, hi, hz0, hz1, hz2⟩ := info_parts info64
  refine step_append_lies w hgd s x 28 ho B 2 i0 (.int .i64 0) 1 8 Try.underlying28 hi hz0 hz1 hz2 rfl (by decide) v l.length (l.map (Value.int .i64)) hs hown ⟨g, 0, none⟩ 1 1 [.int .i64 y] hx rfl ?c1 ?c2 (by decide) ?c3 ?c4 hB w.heap.size rfl ?_
  case c1 =>
    intro j u hj
    have : j = 0 := by
      cases j with
      | zero => rfl
      | succ j => simp at hj
    subst this
    simp at hj
    subst hj
    exact hy
  case c2 => intro u hu; simp at hu; subst hu; rfl
  case c3 => unfold maxLen; omega
  case c4 => omega
  · intro g' cap' w' hown' hgrow hat hlt
    have ho' : Own w' B (.slice (some ⟨g', 0, none⟩) (l.length + 1) cap') (l ++ [y]) := by
      show w'.ownsRow B _ 1 _ (l ++ [y]).length ((l ++ [y]).map (Value.int .i64))
      simpa using hown'
    exact h _ _ w' ho' ((Below.refl B w).grown hgrow hB (fun k hk => (own_lt hown hk).1))

theorem new_kept {wd w1 : World} {x : Int} (hb : Below (wd.alloc (.cells #[.int .i64 x] 2)).heap.size (wd.alloc (.cells #[.int .i64 x] 2)) w1) : w1.cell? ⟨wd.heap.size, 0, none⟩ = some (.int .i64 x) := by
  rw [hb.cell (p := ⟨wd.heap.size, 0, none⟩) (by simp)]
  simp
end Go.Proofs.Ytobdgboejbbfiaa.V

namespace Go.Proofs.Ytobdgboejbbfiaa.V
open Go Go.RowKit

section
variable {P : Program} {ops : Array Oper} {md : Region.Mode} {w : World}
theorem wpIn_of_still {n : Nat} {o : Oper} {a : Act} {K : Act → Prop} {K' : Act → World → Prop} {Q' : Exit → Act → World → Prop} (h : ∀ a, K a → K' a w) (hh : o.still P a w K) : o.wpIn Fence.wide n P a w K' Q' := by
  refine ⟨fun _ _ => trivial, ?_⟩
  show o.uponIn Fence.wide n P a K' Q' ((execOp a.eval o).run P w)
  unfold Oper.still at hh
  generalize (execOp a.eval o).run P w = r at *
  cases r with
  | ok m w' =>
    cases m <;> simp only [Oper.stillUpon] at hh <;> simp only [Oper.uponIn]
    case enter f args =>
      obtain ⟨rfl, v, hc, hn⟩ := hh
      exact ⟨fun h => by simp [Fence.wide] at h, callsIn_wide.2 (hc.mono fun e w'' ⟨he, hw⟩ => by subst he; subst hw; exact h _ hn)⟩
    all_goals (obtain ⟨rfl, h2⟩ := hh; exact h _ h2)
  | halt x w' => simp only [Oper.stillUpon] at hh
theorem wpOpIn_of_stOp {n i : Nat} {a : Act} {K : Act → Prop} {K' : Act → World → Prop} {Q' : Exit → Act → World → Prop} (h : ∀ a, K a → K' a w) (hh : stOp P ops w i K a) : wpOpIn Fence.wide n P ops Q' i K' a w := by
  unfold stOp at hh
  unfold wpOpIn
  split
  · rename_i ho; simp only [ho] at hh; exact h _ hh
  · rename_i o ho
    simp only [ho] at hh
    split
    · rename_i hw; simp only [hw, if_true] at hh; exact wpIn_of_still h hh
    · rename_i hw; simp only [hw] at hh; exact ⟨fun _ _ => trivial, h _ hh⟩
theorem wpAnyIn_of_head {m n g : Nat} {L : Array Bool → Act → Prop} {Q' : Exit → Act → World → Prop} (hL : ∀ listed a, L listed a → wpAnyIn Fence.wide m P md ops Q' g listed a w) :
    ∀ (f : Nat) (listed : Array Bool) (a : Act), wpAnyL P md ops w n L f listed a → wpAnyIn Fence.wide m P md ops Q' (f + g) listed a w
  | 0, listed, a, h => by rw [Nat.zero_add]; exact hL _ _ h
  | f + 1, listed, a, h => by
    rw [show f + 1 + g = (f + g) + 1 by omega]
    exact ⟨fun h0 => absurd h0 h.1, fun i hi => wpOpIn_of_stOp (fun a' h' => wpAnyIn_of_head hL f _ a' h') (h.2 i hi).2⟩
theorem wpAnyIn_of_seq {m : Nat} {Q' : Exit → Act → World → Prop} : ∀ (l : List Oper) (k : Nat) (listed : Array Bool) (a : Act) (w : World), (∀ j, l[j]? = ops[k + j]?) →
    Region.seqB md ops l.length k listed = true → wpListIn Fence.wide m P ops Q' l a w → wpAnyIn Fence.wide m P md ops Q' l.length listed a w
  | [], _, _, _, _, _, hB, h => ⟨by simpa [Region.seqB] using hB, h⟩
  | o :: l, k, listed, a, w, hl, hB, h => by
    have h0 : ops[k]? = some o := by simpa using (hl 0).symm
    simp only [List.length_cons, Region.seqB, Bool.and_eq_true, decide_eq_true_eq] at hB
    refine ⟨fun h1 => (by rw [hB.1] at h1; cases h1), fun i hi => ?_⟩
    rw [hB.1] at hi
    have hik : i = k := by simpa using hi
    subst hik
    have hw : wpOpIn Fence.wide m P ops Q' i (wpListIn Fence.wide m P ops Q' l) a w := by unfold wpOpIn; simp only [h0]; exact h
    exact wpOpIn_mono (fun a' w' h' => wpAnyIn_of_seq l (i + 1) _ a' w' (fun j => by have := hl (j + 1); simpa [Nat.add_assoc, Nat.add_comm 1 j] using this) hB.2 h') hw
theorem wpIn_region_still_tail {id m : Nat} {Q : Exit → Act → World → Prop} {a : Act} {w : World} {l : List Oper} (n : Nat) (hm : P.follows .mixedOrders = true) (hB : Region.lexTailB .any l.toArray n = true)
    (h : wpStill P l.toArray { w with drawn := w.drawn + 1 } (fun a' => wpListIn Fence.wide m P l.toArray Q (l.drop n) a' { w with drawn := w.drawn + 1 }) (l.take n) a) : (Code.region id l.toArray true).wpIn Fence.wide m P Q a w := by
  simp only [Region.lexTailB, Bool.and_eq_true, decide_eq_true_eq] at hB
  obtain ⟨⟨⟨⟨hsel, hn⟩, hs⟩, hc⟩, hlex⟩ := hB
  have hn' : n < l.length := by simpa using hn
  have htl : (l.take n).length = n := by simp; omega
  have hdl : (l.drop n).length = l.toArray.size - n := by simp
  have inv0 : HeadInv .any l.toArray n (Array.replicate l.toArray.size false) :=
    ⟨by simp, fun j oj _ hl => (by rw [getD_replicate_false] at hl; cases hl), fun t _ ht => getD_in (by simpa using ht) (getD_replicate_false _ _)⟩
  have H := wpAnyL_lex (md := .any) (g := l.toArray.size - n) hsel hs hc hn (l.take n) 0 _ a (fun j hj => by
    have hj' : j < n := by rw [htl] at hj; exact hj
    simp [hj']) (by simpa using htl) inv0 (by rw [htl]; exact hlex) h
  refine wpIn_region_any hm ?_
  have := wpAnyIn_of_head (m := m) (Q' := Q) (g := l.toArray.size - n) (fun listed a' hL => by
    have := wpAnyIn_of_seq (m := m) (md := .any) (Q' := Q) (l.drop n) n listed a' { w with drawn := w.drawn + 1 } (fun j => by simp [List.getElem?_drop]) (by rw [hdl]; exact hL.1) hL.2
    rwa [hdl] at this) _ _ _ H
  rw [htl, show n + (l.toArray.size - n) = l.toArray.size by omega] at this
  exact this
end
end Go.Proofs.Ytobdgboejbbfiaa.V
