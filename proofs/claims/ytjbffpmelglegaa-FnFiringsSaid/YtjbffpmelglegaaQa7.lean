/- Texts laid together: Grf, Apr, Like. -/
import Derived.Test.YtjbffpmelglegaaQa4
import Derived.Test.YtjbffpmelglegaaQa6
import Derived.Deep.RegionLaw
import Derived.Test.YtjbffpmelglegaaRows
import Derived.Test.YtjbffpmelglegaaQa1
import Derived.Test.YtjbffpmelglegaaQa2
import Derived.WalkKit
import Derived.ProofKit
import Derived.WalkSmall
import Derived.Deep.QuietTactic
import Derived.BigQuiet
import Derived.BigRegion
import Derived.Deep.Draws
import Derived.Lib.Hide
import Derived.OpenShut
import Derived.Deep.OwnRows
import Derived.Test.YtjbffpmelglegaaQa3
set_option linter.unusedSimpArgs false
set_option linter.unusedVariables false
set_option linter.unusedSectionVars false
namespace Go.Proofs.Ytjbffpmelglegaa
namespace M
def pTo (p : Pc) : Int := p.2.1
def pFrom (p : Pc) : Int := p.1
def plcL (f : Pc → Int) (l : List Pc) (ev : Int) (k : Nat) : List Int := ((List.range k).filter fun i => decide (f (l.getD i pz) = ev)).map fun i : Nat => (i : Int)
def evCode (e : Int) (l : List Pc) (ev : Int) : Int := if isGr e l then (if inB ev 0 (e - 1) then 0 else 2) else 1
def plcRes (f : Pc → Int) (e : Int) (l : List Pc) (ev : Int) : List Int × Int := if isGr e l then (if inB ev 0 (e - 1) then (plcL f l ev l.length, 0) else ([], 2)) else ([], 1)
theorem plcL_next (f : Pc → Int) (l : List Pc) (ev : Int) (k : Nat) : plcL f l ev (k + 1) = if f (l.getD k pz) = ev then plcL f l ev k ++ [(k : Int)] else plcL f l ev k := by
  unfold plcL
  rw [List.range_succ, List.filter_append, List.map_append]
  by_cases h : f (l.getD k pz) = ev
  · rw [if_pos h, List.filter_cons_of_pos (by rw [decide_eq_true_iff]; exact h)]; rfl
  · rw [if_neg h, List.filter_cons_of_neg (by rw [decide_eq_true_iff]; exact h)]; simp
theorem plcL_len (f : Pc → Int) (l : List Pc) (ev : Int) (k : Nat) : (plcL f l ev k).length ≤ k := by
  unfold plcL
  rw [List.length_map]
  exact Nat.le_trans (List.length_filter_le _ _) (by simp)
theorem plcRes_len (f : Pc → Int) (e : Int) (l : List Pc) (ev : Int) : (plcRes f e l ev).1.length ≤ 30 := by
  unfold plcRes
  cases h : isGr e l with
  | false => simp
  | true =>
    have hl : l.length ≤ 30 := by
      unfold isGr at h
      simp only [Bool.and_eq_true, decide_eq_true_iff] at h
      exact h.2.1
    cases h2 : inB ev 0 (e - 1) with
    | false => simp
    | true => have := plcL_len f l ev l.length; simp; omega
theorem isGr_in {e : Int} {l : List Pc} (h : isGr e l = true) : inB e 1 10 = true ∧ l.length ≤ 30 := by
  unfold isGr at h
  simp only [Bool.and_eq_true, decide_eq_true_iff] at h
  exact ⟨h.1, h.2.1⟩
end M
namespace V
set_option maxRecDepth 100000
open Go.RowKit
end V
end Go.Proofs.Ytjbffpmelglegaa

namespace Go.Proofs.Ytjbffpmelglegaa
namespace V
set_option maxRecDepth 100000
open Go.RowKit
theorem step_append3F (w : World) {ops : Array Oper} {o : Oper} {a : Act} {K : Act → World → Prop} {Q : Exit → Act → World → Prop} {E : Prop} (hgd : o.guard = none) (s x : Operand)
    (ho : o.op = .call { callee := .builtin .append, args := #[s, x], argTypes := #[24, 24] }) (B : Nat) (v : Value) (l : List Int) (y : Int) (g n : Nat) (hn : l.length = n) (hs : a.eval s = v) (hown : Own w B v l)
    (hx : a.eval x = .slice (some ⟨g, 0, none⟩) 1 1) (hy : w.cell? ⟨g, 0, none⟩ = some (.int .i64 y)) (hlen : n ≤ 2000000) (hB : B ≤ w.heap.size)
    (h : ∀ b' c' w', Own w' B (.slice (some ⟨b', 0, none⟩) (n + 1) c') (l ++ [y]) → Below B w w' → (∀ k, k < w.heap.size → v.ownBlock ≠ some k → w'.heap[k]? = w.heap[k]?) → (v.ownBlock = some b' ∨ b' = w.heap.size) → K (a.put o.dst (.slice (some ⟨b', 0, none⟩) (n + 1) c')) w') :
    if Region.wanted o (yielded ops a.tmps) = true then Oper.wp Try.prog o a w K Q else E := by
  subst hn
  obtain ⟨i0, hi, hz0, hz1, hz2⟩ := info_parts info64
  refine step_append_lies w hgd s x 24 ho B 2 i0 (.int .i64 0) 1 8 Try.underlying24 hi hz0 hz1 hz2 rfl (by decide) v l.length (l.map (Value.int .i64)) hs hown ⟨g, 0, none⟩ 1 1 [.int .i64 y] hx rfl ?c1 ?c2 (by decide) ?c3 ?c4 hB w.heap.size rfl ?_
  case c1 =>
    intro j u hj
    have : j = 0 := by
      cases j with
      | zero => rfl
      | succ j => simp at hj
    subst this
    simp at hj
    subst hj
    exact hy
  case c2 => intro u hu; simp at hu; subst hu; rfl
  case c3 => unfold maxLen; omega
  case c4 => omega
  · intro g' cap' w' hown' hgrow hat hlt
    have ho' : Own w' B (.slice (some ⟨g', 0, none⟩) (l.length + 1) cap') (l ++ [y]) := by
      show w'.ownsRow B _ 1 _ (l ++ [y]).length ((l ++ [y]).map (Value.int .i64))
      simpa using hown'
    refine h _ _ w' ho' ((Below.refl B w).grown hgrow hB (fun k hk => (own_lt hown hk).1)) (fun k hk hne => ?_) hat
    obtain ⟨g1, g2, g3, g4, g5⟩ := hgrow
    exact g5 k hk (fun e => hne e.symm)
/-- One more entry behind a row that lies in its own block, or in a new one. -/
theorem OwnV.appRowF {w w1 : World} {B g n cap q m c : Nat} {R : List (List Int)} {V : List Value} {l : List Int} (h : OwnV w B (.slice (some ⟨g, 0, none⟩) n cap) R V) (i : Nat) (hi : i < n) (ho : Own w1 B (.slice (some ⟨q, 0, none⟩) m c) l)
    (hk : ∀ k, k < w.heap.size → (V.getD i (.slice none 0 0)).ownBlock ≠ some k → w1.heap[k]? = w.heap[k]?) (hat : (V.getD i (.slice none 0 0)).ownBlock = some q ∨ w.heap.size ≤ q) :
    OwnM (w1.setCell ⟨g, i, none⟩ (.slice (some ⟨q, 0, none⟩) m c)) B (.slice (some ⟨g, 0, none⟩) n cap) (R.set i l) := by
  obtain ⟨h1, h2, h3, h4, h5⟩ := h
  obtain ⟨a', c', hv, hc, hm, hg⟩ := own_form h2
  injection hv with e1 e2 e3
  subst e2 e3
  have hgl := own_lt h2 (k := g) rfl
  have hqg : q ≠ g := by
    rcases hat with e | e
    · intro e2; subst e2; exact h4 i hi q e rfl
    · omega
  have hw1 : w1.ownsRow B 24 1 (.slice (some ⟨g, 0, none⟩) R.length cap) R.length V := ownsRow_keep h2 (fun k hv => hk k (own_lt h2 hv).2 (fun e => h4 i hi k e hv))
  refine ⟨V.set i (.slice (some ⟨q, 0, none⟩) m c), by simpa using h1, ?_, ?_, ?_, ?_⟩
  · have := (World.ownsRow.stored hw1 i (.slice (some ⟨q, 0, none⟩) m c)).1
    simpa using this
  · intro j hj
    simp only [List.length_set] at hj
    rw [getD_set _ _ _ _ _ (by omega), getD_set _ _ _ _ _ (by omega)]
    by_cases e : j = i
    · rw [if_pos e, if_pos e]
      exact ownsRow_keep ho (fun k hv => Below.heap_setCell _ _ _ _ (by
        simp only [Value.ownBlock, Option.some.injEq] at hv
        show k ≠ g
        omega))
    · rw [if_neg e, if_neg e]
      refine ownsRow_keep (h3 j hj) (fun k hv => ?_)
      have hkg : k ≠ g := fun e => h4 j hj k hv (by rw [e]; rfl)
      rw [Below.heap_setCell _ _ _ _ hkg]
      exact hk k (own_lt (h3 j hj) hv).2 (h5 j i hj hi e k hv)
  · intro j hj k hk'
    simp only [List.length_set] at hj
    rw [getD_set _ _ _ _ _ (by omega)] at hk'
    by_cases e : j = i
    · rw [if_pos e] at hk'
      intro e2
      simp only [Value.ownBlock, Option.some.injEq] at e2 hk'
      omega
    · rw [if_neg e] at hk'
      exact h4 j hj k hk'
  · intro j t hj ht hne k hk'
    simp only [List.length_set] at hj ht
    rw [getD_set _ _ _ _ _ (by omega)] at hk'
    rw [getD_set _ _ _ _ _ (by omega)]
    by_cases e : j = i
    · rw [if_pos e] at hk'
      have e' : ¬ t = i := by omega
      rw [if_neg e']
      intro e2
      simp only [Value.ownBlock, Option.some.injEq] at hk'
      subst hk'
      rcases hat with e3 | e3
      · exact h5 i t hi ht (fun x => e' x.symm) q e3 e2
      · have := (own_lt (h3 t ht) e2).2
        omega
    · rw [if_neg e] at hk'
      by_cases e' : t = i
      · rw [if_pos e']
        intro e2
        simp only [Value.ownBlock, Option.some.injEq] at e2
        subst e2
        rcases hat with e3 | e3
        · exact h5 i j hi hj (fun x => e x.symm) q e3 hk'
        · have := (own_lt (h3 j hj) hk').2
          omega
      · rw [if_neg e']
        exact h5 j t hj ht hne k hk'
end V
end Go.Proofs.Ytjbffpmelglegaa

namespace Go.Proofs.Ytjbffpmelglegaa.V
open Go.RowKit

set_option maxRecDepth 100000 in
set_option maxHeartbeats 400000 in
theorem likeInts (a : Option Addr) (n cap : Nat) (l : List Int) (a' : Option Addr) (n' cap' : Nat) (l' : List Int) (w : World) (h : Ints .i64 w a n l) (h' : Ints .i64 w a' n' l') (heq : l = l') :
    Calls Try.prog 37 #[.slice a n cap, .slice a' n' cap'] w fun e w' => e = .returned (.bool true) ∧ ∃ q, w' = w.drewN q := by
  subst heq
  obtain ⟨hl, hm, hr⟩ := h
  obtain ⟨hl', hm', hr'⟩ := h'
  obtain rfl : n = n' := by omega
  unfold maxLen at hm
  clear hm'
  have HL := Lib.hid hl
  clear hl hl'
  go_enter Try.func37, Try.ntmps37
  go_wp2
  go_loopw [5] (fun i wr => ∃ k : Nat, k ≤ n ∧ i = .int .i64 k ∧ ∃ q, wr = w.drewN q) (fun i _ => n - (intOf i).toNat)
  case atStart => exact ⟨0, Nat.zero_le _, rfl, 0, rfl⟩
  case round =>
    obtain ⟨k, hk, rfl, q, rfl⟩ := hrel
    by_cases hlt : k < n
    · rcases hr with h0 | ⟨b, off, rfl, hbl, hc⟩
      · omega
      rcases hr' with h0 | ⟨b', off', rfl, hbl', hc'⟩
      · omega
      have hck := hc k hlt
      have hck' := hc' k hlt
      obtain ⟨x, hx⟩ : ∃ x, x = l.getD k 0 := ⟨_, rfl⟩
      rw [← hx] at hck hck'
      clear hc hx hc'
      have hki : (k : Int) < (n : Int) := by omega
      go_wp2
      go_quiet (fail)
      go_wp2
      go_roundw
      case rel => exact ⟨k + 1, by omega, by go_num, _, rfl⟩
      case measure => simp [intOf]; omega
    · have hkn : k = n := by omega
      subst hkn
      clear hr hr'
      go_wp2
      go_ret
      exact ⟨rfl, q, rfl⟩

set_option maxRecDepth 100000 in
set_option maxHeartbeats 400000 in
theorem likeIntss (a : Option Addr) (n cap : Nat) (R : List (List Int)) (a' : Option Addr) (n' cap' : Nat) (R' : List (List Int)) (w : World) (h : Mat w a n R) (h' : Mat w a' n' R') (heq : R = R') :
    Calls Try.prog 53 #[.slice a n cap, .slice a' n' cap'] w fun e w' => e = .returned (.bool true) ∧ ∃ q, w' = w.drewN q := by
  subst heq
  have HM := Lib.hid h
  have HM' := Lib.hid h'
  obtain ⟨hl, hm, -⟩ := h
  obtain ⟨hl', -, -⟩ := h'
  obtain rfl : n = n' := by omega
  unfold maxLen at hm
  have HL := Lib.hid hl
  clear hl hl'
  go_enter Try.func53, Try.ntmps53
  go_wp2
  go_loopw [5] (fun i wr => ∃ k : Nat, k ≤ n ∧ i = .int .i64 k ∧ ∃ q, wr = w.drewN q) (fun i _ => n - (intOf i).toNat)
  case atStart => exact ⟨0, Nat.zero_le _, rfl, 0, rfl⟩
  case round =>
    obtain ⟨k, hk, rfl, q, rfl⟩ := hrel
    by_cases hlt : k < n
    · obtain ⟨b, off, ra, rc, L, l, rfl, hbl, hll, hc, hI⟩ := HM.out.at k hlt
      obtain ⟨b', off', ra', rc', L', l', rfl, hbl', hll', hc', hI'⟩ := HM'.out.at k hlt
      have HI := Lib.hid hI
      have HI' := Lib.hid hI'
      have HE := Lib.hid (hll.trans hll'.symm)
      clear hI hI' hll hll' HM HM'
      have hki : (k : Int) < (n : Int) := by omega
      go_wp2
      go_quiet ((go_at_call 37; exact q_more (likeInts _ _ _ l _ _ _ l' _ HI.out HI'.out HE.out)))
      go_wp2
      go_roundw
      case rel => exact ⟨k + 1, by omega, by go_num, _, rfl⟩
      case measure => simp [intOf]; omega
    · have hkn : k = n := by omega
      subst hkn
      go_wp2
      go_ret
      exact ⟨rfl, q, rfl⟩

/-- The same, said for the laws. -/
theorem likeM (a : Option Addr) (n cap : Nat) (R : List (List Int)) (a' : Option Addr) (n' cap' : Nat) (w : World) (h : Mat w a n R) (h' : Mat w a' n' R) :
    Calls Try.prog 53 #[.slice a n cap, .slice a' n' cap'] w fun e w' => e = .returned (.bool true) ∧ Below w.heap.size w w' := by
  refine (likeIntss _ _ _ _ _ _ _ _ _ h h' rfl).mono ?_
  rintro e w' ⟨rfl, q, rfl⟩
  exact ⟨rfl, b_draws _ _⟩
theorem likeV (a : Option Addr) (n cap : Nat) (l : List Int) (a' : Option Addr) (n' cap' : Nat) (w : World) (h : Ints .i64 w a n l) (h' : Ints .i64 w a' n' l) :
    Calls Try.prog 37 #[.slice a n cap, .slice a' n' cap'] w fun e w' => e = .returned (.bool true) ∧ Below w.heap.size w w' := by
  refine (likeInts _ _ _ _ _ _ _ _ _ h h' rfl).mono ?_
  rintro e w' ⟨rfl, q, rfl⟩
  exact ⟨rfl, b_draws _ _⟩
set_option maxRecDepth 100000 in
set_option maxHeartbeats 400000 in
theorem big (a : Option Addr) (n cap : Nat) (w : World) (h : n ≤ maxLen) :
    Calls Try.prog 35 #[.slice a n cap] w fun e w' => e = .returned (.bool (decide (4096 < n))) ∧ w = w' := by
  unfold maxLen at h
  go_enter Try.func35, Try.ntmps35
  go_wp2
  go_ret
  exact ⟨retB (decide_eq_decide.2 (by omega)), rfl⟩
end Go.Proofs.Ytjbffpmelglegaa.V
