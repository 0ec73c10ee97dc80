/- Texts laid together: Rt, Mxf, MatKp, Powm, Clo3, It0, It1. -/
import Derived.Test.YtmhpgnndjagogaaGreatRows
import Derived.Test.YtmhpgnndjagogaaGreatQz1
import Derived.Test.YtmhpgnndjagogaaGreatQz5
import Derived.Test.YtmhpgnndjagogaaGreatQz2
import Derived.WalkKit
import Derived.ProofKit
import Derived.WalkSmall
import Derived.Deep.QuietTactic
import Derived.BigQuiet
import Derived.BigRegion
import Derived.Deep.Draws
import Derived.Deep.OwnRows
import Derived.Deep.AppendLies
import Derived.Maps.AppendAt
import Derived.Lib.Hide
import Derived.Test.YtmhpgnndjagogaaGreatQz7
import Derived.Deep.RegionWith
import Derived.Deep.RegionHeld3
import Derived.Test.YtmhpgnndjagogaaGreatQz8
import Derived.StillTailTactics
import Derived.RangeFuncNested
import Derived.RangeFuncBound
import Derived.RangeFuncCalls
import Derived.RangeFuncLeaves
import Derived.Shelf.Abstract
import Derived.OwnWalkIn
import Derived.TacticsInMore
import Derived.LoopNIn
import Derived.LoopIn
import Derived.Test.YtmhpgnndjagogaaGreatProg
set_option linter.unusedSimpArgs false
set_option linter.unusedVariables false
set_option linter.unusedSectionVars false
namespace Go.Proofs.YtmhpgnndjagogaaGreat.V
open Go.RowKit
theorem infoR : (Tryz.prog.info? 27).map (fun i => (i.zero, i.size, i.bytes)) = some (some (.agg #[.int .i64 0, .int .i64 0]), 2, 16) := by kernel_rfl
/-- Two cells a ratio. -/
def rcells (l : List (Int × Int)) : List Value := l.flatMap fun p => [.int .i64 p.1, .int .i64 p.2]
theorem rcells_len (l : List (Int × Int)) : (rcells l).length = l.length * 2 := by
  induction l with
  | nil => rfl
  | cons p l ih => show (Value.int .i64 p.1 :: Value.int .i64 p.2 :: rcells l).length = _; simp [ih]; omega
theorem rcells_snoc (l : List (Int × Int)) (p : Int × Int) : rcells (l ++ [p]) = rcells l ++ [.int .i64 p.1, .int .i64 p.2] := by
  unfold rcells; rw [List.flatMap_append, List.flatMap_singleton]
theorem rcells_at (l : List (Int × Int)) : ∀ i, i < l.length → (rcells l)[2 * i]? = some (.int .i64 (l.getD i (0, 0)).1) ∧ (rcells l)[2 * i + 1]? = some (.int .i64 (l.getD i (0, 0)).2) := by
  induction l with
  | nil => intro i hi; exact absurd hi (by simp)
  | cons p l ih =>
    intro i hi
    have e : rcells (p :: l) = .int .i64 p.1 :: .int .i64 p.2 :: rcells l := rfl
    cases i with
    | zero => rw [e]; exact ⟨rfl, rfl⟩
    | succ i =>
      obtain ⟨h1, h2⟩ := ih i (by simpa using hi)
      rw [e, show 2 * (i + 1) = 2 * i + 1 + 1 by omega]
      simp only [List.getElem?_cons_succ, List.getD_cons_succ]
      exact ⟨h1, h2⟩
/-- A slice that the call owns, in blocks from B on, holding the ratios l. -/
def OwnR (w : World) (B : Nat) (v : Value) (l : List (Int × Int)) : Prop := w.ownsRow B 27 2 v l.length (rcells l)
theorem OwnR.lt {w : World} {B : Nat} {v : Value} {l : List (Int × Int)} (h : OwnR w B v l) {k : Nat} (hk : v.ownBlock = some k) : B ≤ k ∧ k < w.heap.size := World.ownsRow.lt h k hk
theorem OwnR.keep {w w' : World} {B : Nat} {v : Value} {l : List (Int × Int)} (h : OwnR w B v l) (hk : ∀ k, B ≤ k → k < w.heap.size → w'.heap[k]? = w.heap[k]?) : OwnR w' B v l := by
  have h' := h
  obtain ⟨h1, h2⟩ := h
  refine ⟨h1, ?_⟩
  rcases h2 with h2 | ⟨g, cap, cur, hv, hg, hh, r⟩
  · exact .inl h2
  · obtain ⟨q1, q2⟩ := OwnR.lt h' (k := g) (by subst hv; rfl)
    exact .inr ⟨g, cap, cur, hv, hg, by rw [hk g q1 q2]; exact hh, r⟩
theorem OwnR.below {w w' : World} {B : Nat} {v : Value} {l : List (Int × Int)} (h : OwnR w B v l) (hb : Below w.heap.size w w') : OwnR w' B v l :=
  h.keep (fun k _ h2 => hb.block k h2)
theorem OwnR.mono {w : World} {B B' : Nat} {v : Value} {l : List (Int × Int)} (h : OwnR w B v l) (hb : B' ≤ B) : OwnR w B' v l := World.ownsRow.mono h hb
theorem OwnR.form {w : World} {B : Nat} {v : Value} {l : List (Int × Int)} (h : OwnR w B v l) : ∃ a cap, v = .slice a l.length cap ∧ l.length ≤ cap ∧ cap ≤ maxLen ∧ (0 < l.length → ∃ g, a = some ⟨g, 0, none⟩ ∧ B ≤ g ∧ g < w.heap.size) := by
  have h' := h
  obtain ⟨h1, h2⟩ := h
  rcases h2 with ⟨hv, h0⟩ | ⟨g, cap, cur, hv, hg, hh, hn, hc, r⟩
  · rw [h0]; exact ⟨none, 0, hv, Nat.le_refl _, Nat.zero_le _, fun h => by omega⟩
  · subst hv
    exact ⟨_, cap, rfl, hn, hc, fun _ => ⟨g, rfl, hg, (OwnR.lt h' rfl).2⟩⟩
theorem OwnR.len {w : World} {B n cap : Nat} {a : Option Addr} {l : List (Int × Int)} (h : OwnR w B (.slice a n cap) l) : n = l.length := by
  obtain ⟨a', c, hv, _⟩ := h.form
  injection hv
theorem ownR_nil (w : World) (B : Nat) : OwnR w B (.slice none 0 0) [] := World.ownsRow_nil w B _ 2
theorem OwnR.at {w : World} {B n cap : Nat} {a : Option Addr} {l : List (Int × Int)} (h : OwnR w B (.slice a n cap) l) (hn : 0 < n) : ∃ g, a = some ⟨g, 0, none⟩ ∧ B ≤ g ∧ g < w.heap.size ∧ ∀ i, i < n → w.cell? ⟨g, 2 * i, none⟩ = some (.int .i64 (l.getD i (0, 0)).1) ∧ w.cell? ⟨g, 2 * i + 1, none⟩ = some (.int .i64 (l.getD i (0, 0)).2) := by
  have e := h.len
  obtain ⟨a', c', hv, _, _, hg⟩ := h.form
  injection hv with e1 e2 e3
  subst e1
  obtain ⟨g, rfl, g1, g2⟩ := hg (by omega)
  refine ⟨g, rfl, g1, g2, fun i hi => ?_⟩
  have hc := World.ownsRow.cells h (g := g) rfl
  obtain ⟨r1, r2⟩ := rcells_at l i (by omega)
  have c1 := hc _ _ r1
  have c2 := hc _ _ r2
  have a1 : (⟨g, 0, none⟩ : Addr).add (2 * i) = ⟨g, 2 * i, none⟩ := by unfold Addr.add; split <;> simp_all
  have a2 : (⟨g, 0, none⟩ : Addr).add (2 * i + 1) = ⟨g, 2 * i + 1, none⟩ := by unfold Addr.add; split <;> simp_all
  rw [a1] at c1
  rw [a2] at c2
  exact ⟨c1, c2⟩
/-- One ratio is appended, at a step of a region. -/
theorem step_appendR (w : World) {ops : Array Oper} {o : Oper} {a : Act} {K : Act → World → Prop} {Q : Exit → Act → World → Prop} {E : Prop} (hgd : o.guard = none) (s x : Operand)
    (ho : o.op = .call { callee := .builtin .append, args := #[s, x], argTypes := #[110, 110] }) (B : Nat) (v : Value) (l : List (Int × Int)) (p : Int × Int) (g n : Nat) (hn : l.length = n) (hs : a.eval s = v) (hown : OwnR w B v l)
    (hx : a.eval x = .slice (some ⟨g, 0, none⟩) 1 1) (hy1 : w.cell? ⟨g, 0, none⟩ = some (.int .i64 p.1)) (hy2 : w.cell? ⟨g, 1, none⟩ = some (.int .i64 p.2)) (hlen : n ≤ 2000000) (hB : B ≤ w.heap.size)
    (h : ∀ b' c' w', OwnR w' B (.slice b' (n + 1) c') (l ++ [p]) → Below B w w' → K (a.put o.dst (.slice b' (n + 1) c')) w') :
    if Region.wanted o (yielded ops a.tmps) = true then Oper.wp Tryz.prog o a w K Q else E := by
  subst hn
  obtain ⟨i0, hi, hz0, hz1, hz2⟩ := info_parts infoR
  refine step_append_lies w hgd s x 110 ho B 27 i0 (.agg #[.int .i64 0, .int .i64 0]) 2 16 Tryz.underlying110 hi hz0 hz1 hz2 rfl (by decide) v l.length (rcells l) hs hown ⟨g, 0, none⟩ 1 1 [.int .i64 p.1, .int .i64 p.2] hx rfl ?c1 ?c2 (by decide) ?c3 ?c4 hB w.heap.size rfl ?_
  case c1 =>
    intro j u hj
    match j, hj with
    | 0, hj => simp at hj; subst hj; exact hy1
    | 1, hj => simp at hj; subst hj; exact hy2
    | j + 2, hj => simp at hj
  case c2 => intro u hu; simp at hu; rcases hu with rfl | rfl <;> rfl
  case c3 => unfold maxLen; omega
  case c4 => omega
  · intro g' cap' w' hown' hgrow hat hlt
    have ho' : OwnR w' B (.slice (some ⟨g', 0, none⟩) (l.length + 1) cap') (l ++ [p]) := by
      show w'.ownsRow B _ 2 _ (l ++ [p]).length (rcells (l ++ [p]))
      rw [rcells_snoc]
      simpa using hown'
    exact h _ _ w' ho' ((Below.refl B w).grown hgrow hB (fun k hk => (OwnR.lt hown hk).1))
theorem cells_two_new (w : World) (x y : Value) (t : TypeId) : ∀ j u, [x, y][j]? = some u → (w.alloc (.cells #[x, y] t)).cell? ((⟨w.heap.size, 0, none⟩ : Addr).add j) = some u := by
  intro j u hj
  match j, hj with
  | 0, hj => simp at hj; subst hj; simp [Addr.add]
  | 1, hj => simp at hj; subst hj; simp [Addr.add]
  | j + 2, hj => simp at hj
theorem appendR (w : World) {ops : Array Oper} {rest : List Oper} {o : Oper} {a : Act} {Q : Exit → Act → World → Prop} (hgd : o.guard = none) (s x : Operand)
    (ho : o.op = .call { callee := .builtin .append, args := #[s, x], argTypes := #[110, 110] }) (B : Nat) (v : Value) (l : List (Int × Int)) (p : Int × Int) (n g : Nat) (hn : l.length = n) (hs : a.eval s = v) (hown : OwnR w B v l)
    (hx : a.eval x = .slice (some ⟨g, 0, none⟩) 1 1) (hy1 : w.cell? ⟨g, 0, none⟩ = some (.int .i64 p.1)) (hy2 : w.cell? ⟨g, 1, none⟩ = some (.int .i64 p.2)) (hlen : l.length ≤ 2000000) (hB : B ≤ w.heap.size)
    (h : ∀ b' c' w', OwnR w' B (.slice b' (n + 1) c') (l ++ [p]) → Below B w w' → wpList Tryz.prog ops Q rest (a.put o.dst (.slice b' (n + 1) c')) w') :
    wpList Tryz.prog ops Q (o :: rest) a w := by
  subst hn
  obtain ⟨i0, hi, hz0, hz1, hz2⟩ := info_parts infoR
  refine wpList_append_own_at (w := w) hgd s x 110 ho B 27 i0 (.agg #[.int .i64 0, .int .i64 0]) 2 16 Tryz.underlying110 hi hz0 hz1 hz2 rfl (by decide) v _ _ hs hown ⟨g, 0, none⟩ 1 1 [.int .i64 p.1, .int .i64 p.2] hx rfl ?c1 ?c2 ?c3 ?c4 hB ?_
  case c1 =>
    intro j u hj
    match j, hj with
    | 0, hj => simp at hj; subst hj; exact hy1
    | 1, hj => simp at hj; subst hj; exact hy2
    | j + 2, hj => simp at hj
  case c2 => intro u hu; simp at hu; rcases hu with rfl | rfl <;> rfl
  case c3 => unfold maxLen; omega
  case c4 => omega
  · intro v' w' hown' hgrow hz hvb
    have ho' : OwnR w' B v' (l ++ [p]) := by
      show w'.ownsRow B _ 2 v' (l ++ [p]).length (rcells (l ++ [p]))
      rw [rcells_snoc]
      simpa using hown'
    obtain ⟨b', c', hv', _⟩ := ho'.form
    rw [show (l ++ [p]).length = l.length + 1 by simp] at hv'
    subst hv'
    exact h b' c' w' ho' ((Below.refl B w).grown hgrow hB (fun k hk => (OwnR.lt hown hk).1))
end Go.Proofs.YtmhpgnndjagogaaGreat.V

namespace Go.Proofs.YtmhpgnndjagogaaGreat.V
open Go.RowKit
def MBox (w wr : World) (p : Int × Int) : Prop :=
  Below w.heap.size w wr ∧ w.heap.size + 1 < wr.heap.size ∧
  (wr.cell? ⟨w.heap.size, 0, none⟩ = some (.int .i64 0) ∧ wr.cell? ⟨w.heap.size, 1, none⟩ = some (.int .i64 0) ∧ wr.frozen? ⟨w.heap.size, 0, none⟩ = false ∧ wr.frozen? ⟨w.heap.size, 1, none⟩ = false) ∧
  (wr.cell? ⟨w.heap.size + 1, 0, none⟩ = some (.int .i64 p.1) ∧ wr.cell? ⟨w.heap.size + 1, 1, none⟩ = some (.int .i64 p.2) ∧ wr.frozen? ⟨w.heap.size + 1, 0, none⟩ = false ∧ wr.frozen? ⟨w.heap.size + 1, 1, none⟩ = false)
theorem MBox.keep {w w1 w2 : World} {p : Int × Int} (h : MBox w w1 p) (hb : Below w1.heap.size w1 w2) : MBox w w2 p := by
  obtain ⟨h1, h2, ⟨a1, a2, a3, a4⟩, b1, b2, b3, b4⟩ := h
  obtain ⟨hc, hf⟩ := bcell hb
  have hs := hb.size
  refine ⟨h1.trans (hb.mono h1.size), by omega, ⟨?_, ?_, ?_, ?_⟩, ?_, ?_, ?_, ?_⟩
  · rw [hc _ _ (by omega)]; exact a1
  · rw [hc _ _ (by omega)]; exact a2
  · rw [hf _ _ (by omega)]; exact a3
  · rw [hf _ _ (by omega)]; exact a4
  · rw [hc _ _ (by omega)]; exact b1
  · rw [hc _ _ (by omega)]; exact b2
  · rw [hf _ _ (by omega)]; exact b3
  · rw [hf _ _ (by omega)]; exact b4
theorem M.maxR_take {l : List (Int × Int)} {k : Nat} (h1 : 1 ≤ k) (h : k < l.length) : M.maxR (l.take (k + 1)) = M.mx (M.maxR (l.take k)) (l.getD k (0, 0)) := by
  rw [List.take_succ_eq_append_getElem h, M.maxR_snoc (by rw [List.length_take]; omega), List.getD_eq_getElem?_getD, List.getElem?_eq_getElem h]; rfl

theorem low5 {w1 w2 : World} {P Q R S : Prop} (h : P ∧ Q ∧ R ∧ S ∧ Below w1.heap.size w1 w2) : Below w1.heap.size w1 w2 := h.2.2.2.2
theorem keep5 {w0 w1 w2 : World} {b c i j k l : Nat} {x y u v : Value} (hb0 : b < w0.heap.size) (hc0 : c < w0.heap.size) (h : w1.cell? ⟨b, i, none⟩ = some x ∧ w1.cell? ⟨b, j, none⟩ = some y ∧ w1.cell? ⟨c, k, none⟩ = some u ∧ w1.cell? ⟨c, l, none⟩ = some v ∧ Below w0.heap.size w0 w1) (hb : Below w1.heap.size w1 w2) :
    w2.cell? ⟨b, i, none⟩ = some x ∧ w2.cell? ⟨b, j, none⟩ = some y ∧ w2.cell? ⟨c, k, none⟩ = some u ∧ w2.cell? ⟨c, l, none⟩ = some v ∧ Below w0.heap.size w0 w2 := by
  have := h.2.2.2.2.size
  obtain ⟨hc, _⟩ := bcell hb
  exact ⟨(hc _ _ (by omega)).trans h.1, (hc _ _ (by omega)).trans h.2.1, (hc _ _ (by omega)).trans h.2.2.1, (hc _ _ (by omega)).trans h.2.2.2.1, h.2.2.2.2.trans (hb.mono this)⟩
def M.Rb (p : Int × Int) : Prop := -1000000000 ≤ p.1 ∧ p.1 ≤ 1000000000 ∧ 1 ≤ p.2 ∧ p.2 ≤ 1000
theorem M.rb_mx {p q : Int × Int} (hp : M.Rb p) (hq : M.Rb q) : M.Rb (M.mx p q) := by unfold M.mx; split <;> assumption
theorem M.mul_rb {a d : Int} (h1 : -1000000000 ≤ a) (h2 : a ≤ 1000000000) (h3 : 1 ≤ d) (h4 : d ≤ 1000) : -1000000000000000 ≤ a * d ∧ a * d ≤ 1000000000000000 := by
  have e1 : a * d ≤ 1000000000 * d := Int.mul_le_mul_of_nonneg_right h2 (by omega)
  have e2 : -1000000000 * d ≤ a * d := Int.mul_le_mul_of_nonneg_right h1 (by omega)
  omega
theorem compareRb (x p : Int × Int) (y : Int) (w : World) (hx : M.Rb x) (hp : M.Rb p) (hy : M.cmpZ (x.1 * p.2) (p.1 * x.2) = y) :
    Calls Tryz.prog 82 #[.agg #[.int .i64 x.1, .int .i64 x.2], .agg #[.int .i64 p.1, .int .i64 p.2]] w fun e w' => e = .returned (.int .i64 y) ∧ Below w.heap.size w w' := by
  subst hy
  obtain ⟨a1, a2, a3, a4⟩ := hx
  obtain ⟨b1, b2, b3, b4⟩ := hp
  obtain ⟨p1, p2⟩ := M.mul_rb a1 a2 b3 b4
  obtain ⟨q1, q2⟩ := M.mul_rb b1 b2 a3 a4
  exact compareM _ _ _ _ w p1 p2 q1 q2
theorem MBox.set {w w1 : World} {p : Int × Int} (h : MBox w w1 p) (q : Int × Int) : MBox w ((w1.setCell ⟨w.heap.size + 1, 0, none⟩ (.int .i64 q.1)).setCell ⟨w.heap.size + 1, 1, none⟩ (.int .i64 q.2)) q := by
  obtain ⟨h1, h2, ⟨a1, a2, a3, a4⟩, b1, b2, b3, b4⟩ := h
  refine ⟨(h1.setCell (by show w.heap.size ≤ w.heap.size + 1; omega) _).setCell (by show w.heap.size ≤ w.heap.size + 1; omega) _, by simpa using h2, ?_, ?_⟩
  · simp [go_sem, a1, a2, a3, a4]
  · simp [go_sem, b1, b2, b3, b4]

set_option maxRecDepth 100000 in
set_option maxHeartbeats 1000000 in
theorem maxFunc (B : Nat) (b : Option Addr) (n c : Nat) (l : List (Int × Int)) (w : World) (h : OwnR w B (.slice b n c) l) (h1 : 1 ≤ n) (h2 : n ≤ 1000)
    (hl : ∀ i, i < n → M.Rb (l.getD i (0, 0))) :
    Calls Tryz.prog 120 #[.slice b n c, .func (.func 82) #[] #[]] w fun e w' => e = .returned (.agg #[.int .i64 (M.maxR l).1, .int .i64 (M.maxR l).2]) ∧ Below w.heap.size w w' := by
  have hn1 : ¬ (n : Int) < 1 := by omega
  have HLn := Lib.hid h.len
  obtain ⟨g, rfl, hB, hg, hc⟩ := h.at (by omega)
  have hc0 := hc 0 (by omega)
  have HC := Lib.hid hc
  have HLB := Lib.hid hl
  obtain ⟨hc01, hc02⟩ := hc0
  clear h hc hl
  go_enter Tryz.func120, Tryz.ntmps120
  go_wp2
  clear hc01 hc02
  go_loopw [6] (fun i wr => ∃ k : Nat, 1 ≤ k ∧ k ≤ n ∧ i = .int .i64 k ∧ MBox w wr (M.maxR (l.take k)) ∧ M.Rb (M.maxR (l.take k))) (fun i _ => n - (intOf i).toNat)
  case atStart =>
    have e : M.maxR (l.take 1) = l.getD 0 (0, 0) := by
      have := HLn.out
      cases l with
      | nil => simp at this; omega
      | cons p l => rfl
    refine ⟨1, Nat.le_refl _, h1, rfl, ?_, by rw [e]; exact HLB.out 0 (by omega)⟩
    rw [e]
    exact ⟨b_alloc2 _ _ _, by simp, by simp [go_sem], by simp [go_sem]⟩
  case round =>
    obtain ⟨k, hk1, hk, rfl, hM, hR⟩ := hrel
    obtain ⟨wo, rfl⟩ : ∃ x, x = wr := ⟨_, rfl⟩
    have HM := Lib.hid hM
    have HR := Lib.hid hR
    obtain ⟨hbo, hzo, ⟨a1, a2, a3, a4⟩, b1, b2, b3, b4⟩ := hM
    have HBo := Lib.hid hbo
    by_cases hlt : k < n
    · have hki : (k : Int) < (n : Int) := by omega
      obtain ⟨hcx1, hcx2⟩ := HC.out k hlt
      have d1 : wo.cell? ⟨g, k * 2, none⟩ = some (.int .i64 (l.getD k (0, 0)).1) := by rw [Nat.mul_comm, hbo.cell (p := ⟨g, 2 * k, none⟩) hg]; exact hcx1
      have d2 : wo.cell? ⟨g, k * 2 + 1, none⟩ = some (.int .i64 (l.getD k (0, 0)).2) := by rw [Nat.mul_comm k 2, hbo.cell (p := ⟨g, 2 * k + 1, none⟩) hg]; exact hcx2
      have HX := Lib.hid (HLB.out k hlt)
      have HK2 : Hid (k + 1 ≤ n) := hlt
      have HN : Hid (M.maxR (l.take (k + 1)) = M.mx (M.maxR (l.take k)) (l.getD k (0, 0))) := M.maxR_take hk1 (by have := HLn.out; omega)
      have hgo : g < wo.heap.size := by have := hbo.size; omega
      clear hcx1 hcx2 hbo hR
      generalize M.maxR (l.take k) = p at *
      generalize l.getD k (0, 0) = x at *
      by_cases hle : p.1 * x.2 < x.1 * p.2
      · have HY : Hid (M.cmpZ (x.1 * p.2) (p.1 * x.2) = 1) := by show _ = _; unfold M.cmpZ; rw [if_neg (by omega), if_pos hle]
        have HN2 : Hid (M.maxR (l.take (k + 1)) = x) := by show _ = _; rw [HN.out]; unfold M.mx M.less; rw [if_pos (by simpa using hle)]
        clear hle
        go_wp2
        go_region_held3 (fun w' => w'.cell? ⟨g, k * 2, none⟩ = some (.int .i64 x.1) ∧ w'.cell? ⟨g, k * 2 + 1, none⟩ = some (.int .i64 x.2) ∧ w'.cell? ⟨w.heap.size + 1, 0, none⟩ = some (.int .i64 p.1) ∧ w'.cell? ⟨w.heap.size + 1, 1, none⟩ = some (.int .i64 p.2) ∧ Below wo.heap.size wo w') (first | exact ⟨d1, d2, b1, b2, (Below.refl _ _).drew⟩ | exact keep5 hgo hzo ‹_ ∧ _ ∧ _ ∧ _ ∧ Below _ _ _› hb)
          (first | (go_at_call 82; refine (compareRb x p 1 _ HX.out HR.out HY.out).mono ?_; rintro e w3 ⟨rfl, hb⟩))
        all_goals
          have hh : w3.cell? ⟨g, k * 2, none⟩ = some (.int .i64 x.1) ∧ w3.cell? ⟨g, k * 2 + 1, none⟩ = some (.int .i64 x.2) ∧ w3.cell? ⟨w.heap.size + 1, 0, none⟩ = some (.int .i64 p.1) ∧ w3.cell? ⟨w.heap.size + 1, 1, none⟩ = some (.int .i64 p.2) ∧ Below wo.heap.size wo w3 := by assumption
          have HM3 := Lib.hid (HM.out.keep hh.2.2.2.2)
          clear hb d1 d2 a1 a2 a3 a4 b1 b2 b3 b4
          obtain ⟨d1, d2, b1, b2, -⟩ := hh
          obtain ⟨-, -, -, -, -, b3, b4⟩ := HM3.out
          go_wp2
          go_roundw
          case rel => exact ⟨k + 1, by omega, HK2.out, by go_num, by rw [HN2.out]; exact HM3.out.set x, by rw [HN2.out]; exact HX.out⟩
          case measure => have := HK2.out; simp [intOf]; omega
      · obtain ⟨y, hy⟩ : ∃ y, M.cmpZ (x.1 * p.2) (p.1 * x.2) = y := ⟨_, rfl⟩
        have hy0 : ¬ 0 < y := by
          rw [← hy]; unfold M.cmpZ
          split
          · omega
          · first | omega | (rw [if_neg hle]; omega)
        have HY := Lib.hid hy
        have HN2 : Hid (M.maxR (l.take (k + 1)) = p) := by show _ = _; rw [HN.out]; unfold M.mx M.less; rw [if_neg (by simpa using hle)]
        clear hle hy
        go_wp2
        go_region_held3 (fun w' => w'.cell? ⟨g, k * 2, none⟩ = some (.int .i64 x.1) ∧ w'.cell? ⟨g, k * 2 + 1, none⟩ = some (.int .i64 x.2) ∧ w'.cell? ⟨w.heap.size + 1, 0, none⟩ = some (.int .i64 p.1) ∧ w'.cell? ⟨w.heap.size + 1, 1, none⟩ = some (.int .i64 p.2) ∧ Below wo.heap.size wo w') (first | exact ⟨d1, d2, b1, b2, (Below.refl _ _).drew⟩ | exact keep5 hgo hzo ‹_ ∧ _ ∧ _ ∧ _ ∧ Below _ _ _› hb)
          (first | (go_at_call 82; refine (compareRb x p y _ HX.out HR.out HY.out).mono ?_; rintro e w3 ⟨rfl, hb⟩))
        all_goals
          have hh : w3.cell? ⟨g, k * 2, none⟩ = some (.int .i64 x.1) ∧ w3.cell? ⟨g, k * 2 + 1, none⟩ = some (.int .i64 x.2) ∧ w3.cell? ⟨w.heap.size + 1, 0, none⟩ = some (.int .i64 p.1) ∧ w3.cell? ⟨w.heap.size + 1, 1, none⟩ = some (.int .i64 p.2) ∧ Below wo.heap.size wo w3 := by assumption
          have HM3 := Lib.hid (HM.out.keep hh.2.2.2.2)
          clear hb d1 d2 a1 a2 a3 a4 b1 b2 b3 b4
          clear hh
          go_wp2
          go_roundw
          case rel => exact ⟨k + 1, by omega, HK2.out, by go_num, by rw [HN2.out]; exact HM3.out, by rw [HN2.out]; exact HR.out⟩
          case measure => have := HK2.out; simp [intOf]; omega
    · obtain rfl : k = n := by omega
      have HT : Hid (l.take k = l) := List.take_of_length_le (by have := HLn.out; omega)
      rw [HT.out] at b1 b2
      obtain ⟨p, hp⟩ : ∃ p, p = M.maxR l := ⟨_, rfl⟩
      rw [← hp] at b1 b2
      have HP := Lib.hid hp
      clear hp
      go_wp2
      exact bodyPost_ret (v := .agg #[.int .i64 p.1, .int .i64 p.2]) (by simp [results, Tryz.results120, go_sem, a1, a2, a3, a4]) rfl ⟨by rw [HP.out], (HBo.out.setCell (Nat.le_refl _) _).setCell (Nat.le_refl _) _⟩
theorem M.minR_take {l : List (Int × Int)} {k : Nat} (h1 : 1 ≤ k) (h : k < l.length) : M.minR (l.take (k + 1)) = M.mn (M.minR (l.take k)) (l.getD k (0, 0)) := by
  rw [List.take_succ_eq_append_getElem h, M.minR_snoc (by rw [List.length_take]; omega), List.getD_eq_getElem?_getD, List.getElem?_eq_getElem h]; rfl
set_option maxRecDepth 100000 in
set_option maxHeartbeats 1000000 in
theorem minFunc (B : Nat) (b : Option Addr) (n c : Nat) (l : List (Int × Int)) (w : World) (h : OwnR w B (.slice b n c) l) (h1 : 1 ≤ n) (h2 : n ≤ 1000)
    (hl : ∀ i, i < n → M.Rb (l.getD i (0, 0))) :
    Calls Tryz.prog 226 #[.slice b n c, .func (.func 82) #[] #[]] w fun e w' => e = .returned (.agg #[.int .i64 (M.minR l).1, .int .i64 (M.minR l).2]) ∧ Below w.heap.size w w' := by
  have hn1 : ¬ (n : Int) < 1 := by omega
  have HLn := Lib.hid h.len
  obtain ⟨g, rfl, hB, hg, hc⟩ := h.at (by omega)
  have hc0 := hc 0 (by omega)
  have HC := Lib.hid hc
  have HLB := Lib.hid hl
  obtain ⟨hc01, hc02⟩ := hc0
  clear h hc hl
  go_enter Tryz.func226, Tryz.ntmps226
  go_wp2
  clear hc01 hc02
  go_loopw [6] (fun i wr => ∃ k : Nat, 1 ≤ k ∧ k ≤ n ∧ i = .int .i64 k ∧ MBox w wr (M.minR (l.take k)) ∧ M.Rb (M.minR (l.take k))) (fun i _ => n - (intOf i).toNat)
  case atStart =>
    have e : M.minR (l.take 1) = l.getD 0 (0, 0) := by
      have := HLn.out
      cases l with
      | nil => simp at this; omega
      | cons p l => rfl
    refine ⟨1, Nat.le_refl _, h1, rfl, ?_, by rw [e]; exact HLB.out 0 (by omega)⟩
    rw [e]
    exact ⟨b_alloc2 _ _ _, by simp, by simp [go_sem], by simp [go_sem]⟩
  case round =>
    obtain ⟨k, hk1, hk, rfl, hM, hR⟩ := hrel
    obtain ⟨wo, rfl⟩ : ∃ x, x = wr := ⟨_, rfl⟩
    have HM := Lib.hid hM
    have HR := Lib.hid hR
    obtain ⟨hbo, hzo, ⟨a1, a2, a3, a4⟩, b1, b2, b3, b4⟩ := hM
    have HBo := Lib.hid hbo
    by_cases hlt : k < n
    · have hki : (k : Int) < (n : Int) := by omega
      obtain ⟨hcx1, hcx2⟩ := HC.out k hlt
      have d1 : wo.cell? ⟨g, k * 2, none⟩ = some (.int .i64 (l.getD k (0, 0)).1) := by rw [Nat.mul_comm, hbo.cell (p := ⟨g, 2 * k, none⟩) hg]; exact hcx1
      have d2 : wo.cell? ⟨g, k * 2 + 1, none⟩ = some (.int .i64 (l.getD k (0, 0)).2) := by rw [Nat.mul_comm k 2, hbo.cell (p := ⟨g, 2 * k + 1, none⟩) hg]; exact hcx2
      have HX := Lib.hid (HLB.out k hlt)
      have HK2 : Hid (k + 1 ≤ n) := hlt
      have HN : Hid (M.minR (l.take (k + 1)) = M.mn (M.minR (l.take k)) (l.getD k (0, 0))) := M.minR_take hk1 (by have := HLn.out; omega)
      have hgo : g < wo.heap.size := by have := hbo.size; omega
      clear hcx1 hcx2 hbo hR
      generalize M.minR (l.take k) = p at *
      generalize l.getD k (0, 0) = x at *
      by_cases hle : x.1 * p.2 < p.1 * x.2
      · have HY : Hid (M.cmpZ (x.1 * p.2) (p.1 * x.2) = -1) := by show _ = _; unfold M.cmpZ; rw [if_pos hle]
        have HN2 : Hid (M.minR (l.take (k + 1)) = x) := by show _ = _; rw [HN.out]; unfold M.mn M.less; rw [if_pos (by simpa using hle)]
        clear hle
        go_wp2
        go_region_held3 (fun w' => w'.cell? ⟨g, k * 2, none⟩ = some (.int .i64 x.1) ∧ w'.cell? ⟨g, k * 2 + 1, none⟩ = some (.int .i64 x.2) ∧ w'.cell? ⟨w.heap.size + 1, 0, none⟩ = some (.int .i64 p.1) ∧ w'.cell? ⟨w.heap.size + 1, 1, none⟩ = some (.int .i64 p.2) ∧ Below wo.heap.size wo w') (first | exact ⟨d1, d2, b1, b2, (Below.refl _ _).drew⟩ | exact keep5 hgo hzo ‹_ ∧ _ ∧ _ ∧ _ ∧ Below _ _ _› hb)
          (first | (go_at_call 82; refine (compareRb x p (-1) _ HX.out HR.out HY.out).mono ?_; rintro e w3 ⟨rfl, hb⟩))
        all_goals
          have hh : w3.cell? ⟨g, k * 2, none⟩ = some (.int .i64 x.1) ∧ w3.cell? ⟨g, k * 2 + 1, none⟩ = some (.int .i64 x.2) ∧ w3.cell? ⟨w.heap.size + 1, 0, none⟩ = some (.int .i64 p.1) ∧ w3.cell? ⟨w.heap.size + 1, 1, none⟩ = some (.int .i64 p.2) ∧ Below wo.heap.size wo w3 := by assumption
          have HM3 := Lib.hid (HM.out.keep hh.2.2.2.2)
          clear hb d1 d2 a1 a2 a3 a4 b1 b2 b3 b4
          obtain ⟨d1, d2, b1, b2, -⟩ := hh
          obtain ⟨-, -, -, -, -, b3, b4⟩ := HM3.out
          go_wp2
          go_roundw
          case rel => exact ⟨k + 1, by omega, HK2.out, by go_num, by rw [HN2.out]; exact HM3.out.set x, by rw [HN2.out]; exact HX.out⟩
          case measure => have := HK2.out; simp [intOf]; omega
      · obtain ⟨y, hy⟩ : ∃ y, M.cmpZ (x.1 * p.2) (p.1 * x.2) = y := ⟨_, rfl⟩
        have hy0 : ¬ y < 0 := by
          rw [← hy]; unfold M.cmpZ
          rw [if_neg hle]
          split <;> omega
        have HY := Lib.hid hy
        have HN2 : Hid (M.minR (l.take (k + 1)) = p) := by show _ = _; rw [HN.out]; unfold M.mn M.less; rw [if_neg (by simpa using hle)]
        clear hle hy
        go_wp2
        go_region_held3 (fun w' => w'.cell? ⟨g, k * 2, none⟩ = some (.int .i64 x.1) ∧ w'.cell? ⟨g, k * 2 + 1, none⟩ = some (.int .i64 x.2) ∧ w'.cell? ⟨w.heap.size + 1, 0, none⟩ = some (.int .i64 p.1) ∧ w'.cell? ⟨w.heap.size + 1, 1, none⟩ = some (.int .i64 p.2) ∧ Below wo.heap.size wo w') (first | exact ⟨d1, d2, b1, b2, (Below.refl _ _).drew⟩ | exact keep5 hgo hzo ‹_ ∧ _ ∧ _ ∧ _ ∧ Below _ _ _› hb)
          (first | (go_at_call 82; refine (compareRb x p y _ HX.out HR.out HY.out).mono ?_; rintro e w3 ⟨rfl, hb⟩))
        all_goals
          have hh : w3.cell? ⟨g, k * 2, none⟩ = some (.int .i64 x.1) ∧ w3.cell? ⟨g, k * 2 + 1, none⟩ = some (.int .i64 x.2) ∧ w3.cell? ⟨w.heap.size + 1, 0, none⟩ = some (.int .i64 p.1) ∧ w3.cell? ⟨w.heap.size + 1, 1, none⟩ = some (.int .i64 p.2) ∧ Below wo.heap.size wo w3 := by assumption
          have HM3 := Lib.hid (HM.out.keep hh.2.2.2.2)
          clear hb d1 d2 a1 a2 a3 a4 b1 b2 b3 b4
          clear hh
          go_wp2
          go_roundw
          case rel => exact ⟨k + 1, by omega, HK2.out, by go_num, by rw [HN2.out]; exact HM3.out, by rw [HN2.out]; exact HR.out⟩
          case measure => have := HK2.out; simp [intOf]; omega
    · obtain rfl : k = n := by omega
      have HT : Hid (l.take k = l) := List.take_of_length_le (by have := HLn.out; omega)
      rw [HT.out] at b1 b2
      obtain ⟨p, hp⟩ : ∃ p, p = M.minR l := ⟨_, rfl⟩
      rw [← hp] at b1 b2
      have HP := Lib.hid hp
      clear hp
      go_wp2
      exact bodyPost_ret (v := .agg #[.int .i64 p.1, .int .i64 p.2]) (by simp [results, Tryz.results226, go_sem, a1, a2, a3, a4]) rfl ⟨by rw [HP.out], (HBo.out.setCell (Nat.le_refl _) _).setCell (Nat.le_refl _) _⟩
end Go.Proofs.YtmhpgnndjagogaaGreat.V

namespace Go.Proofs.YtmhpgnndjagogaaGreat.V
open Go.RowKit
/-- As appendR, with what stays as it was. -/
theorem appendR2 (w : World) {ops : Array Oper} {rest : List Oper} {o : Oper} {a : Act} {Q : Exit → Act → World → Prop} (hgd : o.guard = none) (s x : Operand)
    (ho : o.op = .call { callee := .builtin .append, args := #[s, x], argTypes := #[110, 110] }) (B : Nat) (v : Value) (l : List (Int × Int)) (p : Int × Int) (n g : Nat) (hn : l.length = n) (hs : a.eval s = v) (hown : OwnR w B v l)
    (hx : a.eval x = .slice (some ⟨g, 0, none⟩) 1 1) (hy1 : w.cell? ⟨g, 0, none⟩ = some (.int .i64 p.1)) (hy2 : w.cell? ⟨g, 1, none⟩ = some (.int .i64 p.2)) (hlen : l.length ≤ 2000000) (hB : B ≤ w.heap.size)
    (h : ∀ b' c' w', OwnR w' B (.slice b' (n + 1) c') (l ++ [p]) → Below B w w' → (∀ k, k < w.heap.size → v.ownBlock ≠ some k → w'.heap[k]? = w.heap[k]?) → ((Value.slice b' (n + 1) c').ownBlock = v.ownBlock ∨ (Value.slice b' (n + 1) c').ownBlock = some w.heap.size) → wpList Tryz.prog ops Q rest (a.put o.dst (.slice b' (n + 1) c')) w') :
    wpList Tryz.prog ops Q (o :: rest) a w := by
  subst hn
  obtain ⟨i0, hi, hz0, hz1, hz2⟩ := info_parts infoR
  refine wpList_append_own_at (w := w) hgd s x 110 ho B 27 i0 (.agg #[.int .i64 0, .int .i64 0]) 2 16 Tryz.underlying110 hi hz0 hz1 hz2 rfl (by decide) v _ _ hs hown ⟨g, 0, none⟩ 1 1 [.int .i64 p.1, .int .i64 p.2] hx rfl ?c1 ?c2 ?c3 ?c4 hB ?_
  case c1 =>
    intro j u hj
    match j, hj with
    | 0, hj => simp at hj; subst hj; exact hy1
    | 1, hj => simp at hj; subst hj; exact hy2
    | j + 2, hj => simp at hj
  case c2 => intro u hu; simp at hu; rcases hu with rfl | rfl <;> rfl
  case c3 => unfold maxLen; omega
  case c4 => omega
  · intro v' w' hown' hgrow hz hvb
    have ho' : OwnR w' B v' (l ++ [p]) := by
      show w'.ownsRow B _ 2 v' (l ++ [p]).length (rcells (l ++ [p]))
      rw [rcells_snoc]
      simpa using hown'
    obtain ⟨b', c', hv', _⟩ := ho'.form
    rw [show (l ++ [p]).length = l.length + 1 by simp] at hv'
    subst hv'
    have hb := (Below.refl B w).grown hgrow hB (fun k hk => (OwnR.lt hown hk).1)
    obtain ⟨g1, g2, g3, g4, g5⟩ := hgrow
    exact h b' c' w' ho' hb (fun k hk hne => g5 k hk (fun e => hne e.symm)) hvb
/-- A matrix whose blocks lie apart from a list that grows. -/
def MatK (wr : World) (v : Value) (a : Option Addr) (n : Nat) (R : List (List Int)) : Prop :=
  ∃ lo hi, (∀ w', Below 0 wr w' → (∀ k, lo ≤ k → k < hi → w'.heap[k]? = wr.heap[k]?) → Mat w' a n R) ∧ hi ≤ wr.heap.size ∧ ∀ g, v.ownBlock = some g → g < lo ∨ hi ≤ g
theorem MatK.mat {wr : World} {v : Value} {a : Option Addr} {n : Nat} {R : List (List Int)} (h : MatK wr v a n R) : Mat wr a n R := by
  obtain ⟨lo, hi, h1, -, -⟩ := h
  exact h1 wr (Below.refl _ _) fun _ _ _ => rfl
theorem below0 {B : Nat} {w w' : World} (hb : Below B w w') : Below 0 w w' := hb.mono (Nat.zero_le _)
theorem MatK.step {wr w' : World} {v v' : Value} {a : Option Addr} {n : Nat} {R : List (List Int)} (h : MatK wr v a n R) (hb : Below 0 wr w') (hk : ∀ k, k < wr.heap.size → v.ownBlock ≠ some k → w'.heap[k]? = wr.heap[k]?)
    (hv : v'.ownBlock = v.ownBlock ∨ v'.ownBlock = some wr.heap.size) : MatK w' v' a n R := by
  obtain ⟨lo, hi, h1, h2, h3⟩ := h
  have hs := hb.size
  refine ⟨lo, hi, fun w2 hb2 hk2 => h1 w2 (hb.trans hb2) fun k k1 k2 => (hk2 k k1 k2).trans (hk k (by omega) fun e => ?_), by omega, fun g hg => ?_⟩
  · have := h3 k e; omega
  · rcases hv with hv | hv
    · exact h3 g (hv.symm.trans hg)
    · rw [hv] at hg; injection hg with hg; omega
theorem MatK.below {wr w' : World} {v : Value} {a : Option Addr} {n : Nat} {R : List (List Int)} (h : MatK wr v a n R) (hb : Below wr.heap.size wr w') : MatK w' v a n R :=
  h.step (below0 hb) (fun k hk _ => hb.block k hk) (.inl rfl)
/-- At the start: a matrix that was there before the list. -/
theorem matK_old {w wr : World} {v : Value} {a : Option Addr} {n : Nat} {R : List (List Int)} (h : Mat w a n R) (hb : Below w.heap.size w wr) (hv : ∀ g, v.ownBlock = some g → w.heap.size ≤ g) : MatK wr v a n R :=
  ⟨0, w.heap.size, fun _ hb2 hk => h.below ⟨hb2.os.trans hb.os, hb2.tape.trans hb.tape, hb2.output.trans hb.output, Nat.le_trans hb.size hb2.size, fun k hk2 => (hk k (Nat.zero_le _) hk2).trans (hb.block k hk2)⟩, hb.size, fun g hg => .inr (hv g hg)⟩
/-- A matrix that was made after the list's last growth. -/
theorem matK_new {w wr : World} {v : Value} {a : Option Addr} {n c : Nat} {R : List (List Int)} (h : OwnM wr w.heap.size (.slice a n c) R) (hv : ∀ g, v.ownBlock = some g → g < w.heap.size) : MatK wr v a n R :=
  ⟨w.heap.size, wr.heap.size, fun _ _ hk => (h.keep hk).mat, Nat.le_refl _, fun g hg => .inl (hv g hg)⟩
end Go.Proofs.YtmhpgnndjagogaaGreat.V

namespace Go.Proofs.YtmhpgnndjagogaaGreat.V
open Go.RowKit
/-- The result's box, with its two zeros. -/
def MBox0 (w wr : World) : Prop :=
  Below (w.heap.size + 2) wr wr ∧ Below w.heap.size w wr ∧ w.heap.size + 1 < wr.heap.size ∧ wr.cell? ⟨w.heap.size + 1, 0, none⟩ = some (.int .i64 0) ∧ wr.cell? ⟨w.heap.size + 1, 1, none⟩ = some (.int .i64 0) ∧ wr.frozen? ⟨w.heap.size + 1, 0, none⟩ = false ∧ wr.frozen? ⟨w.heap.size + 1, 1, none⟩ = false
theorem MBox0.keep {w w1 w2 : World} (h : MBox0 w w1) (hb : Below (w.heap.size + 2) w1 w2) : MBox0 w w2 := by
  obtain ⟨_, h1, h2, a1, a2, a3, a4⟩ := h
  have hs := hb.size
  refine ⟨Below.refl _ _, h1.trans (hb.mono (by omega)), by omega, ?_, ?_, ?_, ?_⟩
  · rw [hb.cell (p := ⟨w.heap.size + 1, 0, none⟩) (by show w.heap.size + 1 < _; omega)]; exact a1
  · rw [hb.cell (p := ⟨w.heap.size + 1, 1, none⟩) (by show w.heap.size + 1 < _; omega)]; exact a2
  · rw [hb.frozen (p := ⟨w.heap.size + 1, 0, none⟩) (by show w.heap.size + 1 < _; omega)]; exact a3
  · rw [hb.frozen (p := ⟨w.heap.size + 1, 1, none⟩) (by show w.heap.size + 1 < _; omega)]; exact a4
set_option maxRecDepth 100000 in
set_option maxHeartbeats 2000000 in
theorem powerMean (a : Option Addr) (n cap : Nat) (R : List (List Int)) (w : World) (h : Sq w a n R) (hA : ∀ i j, i < n → j < n → M.Sm 1000000 (M.ent R i j)) (hc : M.hasCyc (M.ent R) n = true) :
    Calls Tryz.prog 61 #[.agg #[], .slice a n cap] w fun e w' => e = .returned (.agg #[.int .i64 (M.bestR (M.ent R) n).1, .int .i64 (M.bestR (M.ent R) n).2]) ∧ Below w.heap.size w w' := by
  have HS := Lib.hid h
  have HSm := Lib.hid hA
  have HC := Lib.hid hc
  obtain ⟨n1, n2⟩ := h.2.2.2
  clear h hA hc
  go_enter Tryz.func61, Tryz.ntmps61
  go_wp2
  go_loopw [5, 6, 7, 8, 9, 13] (fun ms pw _ _ _ i wr => ∃ (k : Nat) (b : Option Addr) (c : Nat) (pb : Option Addr) (pc : Nat) (P : List (List Int)), k ≤ n ∧ i = .int .i64 k ∧ ms = .slice b (M.mnL (M.ent R) n k).length c ∧ pw = .slice pb n pc ∧ Hid (OwnR wr (w.heap.size + 2) (.slice b (M.mnL (M.ent R) n k).length c) (M.mnL (M.ent R) n k)) ∧ Hid (MatK wr (.slice b (M.mnL (M.ent R) n k).length c) pb n P) ∧ Hid (Rect P n n) ∧ Hid (∀ i j, i < n → j < n → M.ent P i j = M.bpw (M.ent R) n k i j) ∧ Hid (MBox0 w wr)) (fun _ _ _ _ _ i _ => n - (intOf i).toNat)
  case atStart => exact ⟨0, none, 0, _, _, R, Nat.zero_le _, rfl, rfl, rfl, ownR_nil _ _, matK_old HS.out.1 (b_alloc2 _ _ _) (fun g hg => by cases hg), HS.out.2.1, fun _ _ _ _ => rfl, ⟨Below.refl _ _, b_alloc2 _ _ _, by simp, by simp [go_sem], by simp [go_sem], by simp [go_sem], by simp [go_sem]⟩⟩
  case round =>
    obtain ⟨k, b, c, pb, pc, P, hk, rfl, rfl, rfl, HO, HK, HT, HE, HM⟩ := hrel
    obtain ⟨wo, rfl⟩ : ∃ x, x = wr := ⟨_, rfl⟩
    by_cases hlt : k < n
    · have hki : (k : Int) < (n : Int) := by omega
      have hki1 : (k : Int) + 1 ≤ 10 := by omega
      go_wp2
      go_loopw [5, 8, 9, 18] (fun ms _ _ j wr => ∃ (t : Nat) (b : Option Addr) (c : Nat), t ≤ n ∧ j = .int .i64 t ∧ ms = .slice b (M.mnL (M.ent R) n k ++ M.dgL (M.ent R) n k t).length c ∧ Hid (OwnR wr (w.heap.size + 2) (.slice b (M.mnL (M.ent R) n k ++ M.dgL (M.ent R) n k t).length c) (M.mnL (M.ent R) n k ++ M.dgL (M.ent R) n k t)) ∧ Hid (MatK wr (.slice b (M.mnL (M.ent R) n k ++ M.dgL (M.ent R) n k t).length c) pb n P) ∧ Hid (MBox0 w wr)) (fun _ _ _ j _ => n - (intOf j).toNat)
      case atStart =>
        have e : M.mnL (M.ent R) n k ++ M.dgL (M.ent R) n k 0 = M.mnL (M.ent R) n k := List.append_nil _
        refine ⟨0, b, c, Nat.zero_le _, rfl, ?_⟩
        rw [e]
        exact ⟨rfl, HO, HK, HM⟩
      case round =>
        clear HO HK HM
        obtain ⟨t, b1, c1, ht, rfl, rfl, HO, HK, HM⟩ := hrel
        obtain ⟨wi, rfl⟩ : ∃ x, x = wr := ⟨_, rfl⟩
        by_cases htl : t < n
        · have hti : (t : Int) < (n : Int) := by omega
          obtain ⟨d, od, rr, rcr, rfl, hbr, hcr0, hIr⟩ := HK.out.mat.rect_at HT.out t htl
          obtain ⟨rrb, rro, x, rfl, -, hx, hcx⟩ := hIr.at t htl
          have hxe : x = M.bpw (M.ent R) n k t t := hx.trans (HE.out t t htl htl)
          have HX := Lib.hid hxe
          clear hIr hx hxe
          by_cases hxb : x = -1000000000000000
          · have hxb2 : (x != -1000000000000000) = false := by simp [hxb]
            have e : M.mnL (M.ent R) n k ++ M.dgL (M.ent R) n k (t + 1) = M.mnL (M.ent R) n k ++ M.dgL (M.ent R) n k t := by
              rw [M.dgL_next, if_pos (HX.out.symm.trans hxb), List.append_nil]
            have HNe := Lib.hid e
            clear e hxb
            go_wp2
            go_roundw
            case rel =>
              refine ⟨t + 1, b1, c1, by omega, by go_num, ?_⟩
              rw [HNe.out]
              exact ⟨rfl, HO, HK, HM⟩
            case measure => simp [intOf]; omega
          · have hxb2 : (x != -1000000000000000) = true := by simp [hxb]
            have e : M.mnL (M.ent R) n k ++ M.dgL (M.ent R) n k (t + 1) = (M.mnL (M.ent R) n k ++ M.dgL (M.ent R) n k t) ++ [M.meanR x ((k : Int) + 1)] := by
              rw [M.dgL_next, if_neg (fun q => hxb (HX.out.trans q)), ← HX.out, List.append_assoc]
            have HNe := Lib.hid e
            have hbd : -1000000000000 ≤ x ∧ x ≤ 1000000000000 := by
              have := M.bpw_sm HSm.out k t t htl htl
              rw [← HX.out] at this
              rcases this with q | q
              · exact absurd q hxb
              · omega
            obtain ⟨hbd1, hbd2⟩ := hbd
            have hll : (M.mnL (M.ent R) n k ++ M.dgL (M.ent R) n k t).length ≤ 200 := by
              have q1 := M.mnL_len (M.ent R) n k
              have q2 := M.dgL_len (M.ent R) n k t
              have q3 : k * n ≤ 10 * 10 := Nat.mul_le_mul (by omega) n2
              rw [List.length_append]; omega
            have HLL := Lib.hid hll
            clear e hxb hll
            generalize M.mnL (M.ent R) n k ++ M.dgL (M.ent R) n k t = l at *
            go_wp2_with fail
            refine (reduced _ _ _ (by omega) (by omega) (by omega) (by omega) (by omega)).mono ?_
            rintro e w2 ⟨rfl, hb2⟩
            have HB2 := Lib.hid hb2
            have hz2 := hb2.size
            clear hb2
            go_wp2_with (at_builtin; refine appendR2 (w2.alloc (.cells #[.int .i64 (M.ratN x ((k : Int) + 1)), .int .i64 (M.ratD x ((k : Int) + 1))] 27)) rfl (.tmp 28) (.tmp 36) rfl (w.heap.size + 2) _ l (M.meanR x ((k : Int) + 1)) _ w2.heap.size rfl rfl ((HO.out.below HB2.out).below (b_alloc _ _)) rfl (by simp [go_sem, M.meanR]) (by simp [go_sem, M.meanR]) (by have := HLL.out; omega) ?hB ?_)
            case hB => have := HM.out.2.2.1; simp; omega
            intro b4 c4 w4 hO4 hb4 hk4 hv4
            have HO4 := Lib.hid hO4
            have HK4 : Hid (MatK w4 (.slice b4 (l.length + 1) c4) (some ⟨d, od, none⟩) n P) := ((HK.out.below HB2.out).below (b_alloc _ _)).step (below0 hb4) (fun q hq => hk4 q (by simpa using hq)) (by simpa using hv4)
            have HM4 : Hid (MBox0 w w4) := ((HM.out.keep (HB2.out.mono HM.out.2.2.1)).keep ((Below.refl _ _).alloc (by have := HM.out.2.2.1; omega) _)).keep hb4
            clear hO4 hb4 hk4 hv4
            go_wp2
            go_roundw
            case rel =>
              refine ⟨t + 1, b4, c4, by omega, by go_num, ?_⟩
              rw [HNe.out, List.length_append]
              exact ⟨rfl, HO4, HK4, HM4⟩
            case measure => simp [intOf]; omega
        · obtain rfl : t = n := by omega
          have e : M.mnL (M.ent R) t k ++ M.dgL (M.ent R) t k t = M.mnL (M.ent R) t (k + 1) := (M.mnL_next _ _ _).symm
          rw [e] at HO HK ⊢
          clear e
          have HPB : Hid (∀ i j, i < t → j < t → M.Big (M.ent P i j)) := fun i j hi hj => by
            rw [HE.out i j hi hj]
            exact M.big_sm (M.bpw_sm HSm.out k i j hi hj) (by omega)
          have HRB : Hid (∀ i j, i < t → j < t → M.Big (M.ent R i j)) := fun i j hi hj => M.big_sm (HSm.out i j hi hj) (by omega)
          go_wp2_with fail
          refine (maxPlus _).mono ?_
          rintro e w2 ⟨rfl, hb2⟩
          have HB2 := Lib.hid hb2
          have hz2 := hb2.size
          clear hb2
          go_wp2_with fail
          refine (multipliedB _ _ _ t P _ _ t R _ (HK.out.mat.below HB2.out) (HS.out.1.below (HM.out.2.1.trans (HB2.out.mono (by have := HM.out.2.2.1; omega)))) HT.out HS.out.2.1 HPB.out HRB.out n1 n2 n1 n2 n1 n2).mono ?_
          rintro e w3 ⟨a3, c3, rfl, hP, hb3⟩
          have HB3 := Lib.hid hb3
          have HP := Lib.hid hP
          clear hb3 hP
          have HO3 := Lib.hid ((HO.out.below HB2.out).below HB3.out)
          have HM3 : Hid (MBox0 w w3) := (HM.out.keep (HB2.out.mono HM.out.2.2.1)).keep (HB3.out.mono (by have := HM.out.2.2.1; omega))
          have HK3 : Hid (MatK w3 (.slice b1 (M.mnL (M.ent R) t (k + 1)).length c1) a3 t (M.mk t t fun i j => M.dot P R i j t)) := matK_new HP.out (fun g hg => by have := (OwnR.lt HO.out hg).2; omega)
          go_wp2
          go_roundw
          case rel =>
            exact ⟨k + 1, b1, c1, a3, c3, _, by omega, by go_num, rfl, rfl, HO3, HK3, rect_mk _ _ _, fun i j hi hj => by
              rw [M.ent_mk _ _ _ _ _ hi hj]
              show _ = M.sumN t fun u => M.times (M.bpw (M.ent R) t k i u) (M.ent R u j)
              unfold M.dot
              refine M.sumN_congr fun u hu => ?_
              rw [HE.out i u hi hu], HM3⟩
          case measure => simp [intOf]; omega
    · obtain rfl : k = n := by omega
      have h1 := M.mnL_some n2 HSm.out HC.out
      have h2 : (M.mnL (M.ent R) k k).length ≤ 1000 := by
        have q1 := M.mnL_len (M.ent R) k k
        have q3 : k * k ≤ 10 * 10 := Nat.mul_le_mul n2 n2
        omega
      have H1 := Lib.hid h1
      have H2 := Lib.hid h2
      have HBD : Hid (∀ i, i < (M.mnL (M.ent R) k k).length → M.Rb ((M.mnL (M.ent R) k k).getD i (0, 0))) := fun i hi => by
        rw [List.getD_eq_getElem?_getD, List.getElem?_eq_getElem hi]
        obtain ⟨q1, q2, q3, q4⟩ := M.mnL_bd HSm.out n2 (List.getElem_mem hi)
        exact ⟨by simp only [Option.getD_some]; omega, by simp only [Option.getD_some]; omega, q3, by simp only [Option.getD_some]; omega⟩
      have HBR : Hid (M.bestR (M.ent R) k = M.maxR (M.mnL (M.ent R) k k)) := rfl
      obtain ⟨p, hp⟩ : ∃ p, p = M.bestR (M.ent R) k := ⟨_, rfl⟩
      have HPp := Lib.hid hp
      clear h1 h2 hp HK
      generalize M.mnL (M.ent R) k k = l at *
      go_wp2_with fail
      refine (maxFunc _ _ _ _ l _ HO.out H1.out H2.out HBD.out).mono ?_
      rintro e w3 ⟨rfl, hb3⟩
      rw [← HBR.out, ← HPp.out]
      have HM3 := Lib.hid (HM.out.keep (hb3.mono HM.out.2.2.1))
      obtain ⟨-, hb, hz, a1, a2, a3, a4⟩ := HM3.out
      have HBB := Lib.hid hb
      clear hb3 hb
      go_wp2
      exact bodyPost_ret (v := .agg #[.int .i64 p.1, .int .i64 p.2]) (by simp [results, Tryz.results61, go_sem, hz, a1, a2, a3, a4]) rfl ⟨by rw [HPp.out], (HBB.out.setCell (by show w.heap.size ≤ w.heap.size + 1; omega) _).setCell (by show w.heap.size ≤ w.heap.size + 1; omega) _⟩
theorem cycleMean (a : Option Addr) (n cap : Nat) (R : List (List Int)) (w : World) (h : Mat w a n R) :
    Calls Tryz.prog 32 #[.slice a n cap] w fun e w' => e = .returned (.tuple #[.agg #[.int .i64 (M.cycMeanRes R).1.1, .int .i64 (M.cycMeanRes R).1.2], .int .i64 (M.cycMeanRes R).2]) ∧ Below w.heap.size w w' :=
  cycleMean_of a n cap R w h fun hs hc W hW => powerMean a n cap R W (sq_of hW hs) (sm_of hW hs) hc
end Go.Proofs.YtmhpgnndjagogaaGreat.V

namespace Go.Proofs.YtmhpgnndjagogaaGreat.V
open Go.RowKit

/-- The matrix whose diagonal is 0 before row k. -/
def M.diaF (A : Nat → Nat → Int) (n k i j : Nat) : Int := if i = j ∧ i < k then 0 else M.cfw A n i j
set_option maxRecDepth 100000 in
set_option maxHeartbeats 1000000 in
theorem starOf (a : Option Addr) (n cap : Nat) (R : List (List Int)) (w : World) (h : Sq w a n R) :
    Calls Tryz.prog 110 #[.slice a n cap] w (CPost (M.starL R n) w) := by
  have HS := Lib.hid h
  obtain ⟨n1, n2⟩ := h.2.2.2
  clear h
  obtain ⟨r, hr⟩ : ∃ r, r = M.plusL R n := ⟨_, rfl⟩
  have HC : Calls Tryz.prog 161 #[.slice a n cap] w (CPost r w) := by rw [hr]; exact plusOf _ _ _ _ _ HS.out
  by_cases hp : M.noPos (M.ent R) n = true
  · have hr2 : r = (M.plusM R n, true) := by rw [hr]; unfold M.plusL; rw [hp]; rfl
    have HF : Hid (M.starL R n = (M.starM R n, true)) := by show _ = _; unfold M.starL; rw [hp]; rfl
    clear hr hp
    subst hr2
    go_enter Tryz.func110, Tryz.ntmps110
    go_wp2_with fail
    refine HC.mono ?_
    rintro e w1 ⟨a2, m, cap2, rfl, hO, hb⟩
    obtain rfl : m = n := by have := hO.len; simpa [M.plusM] using this
    have HO0 : Hid (OwnM w1 w.heap.size (.slice a2 m cap2) (M.mk m m (M.diaF (M.ent R) m 0))) :=
      (congrArg (OwnM _ _ _) (M.mk_congr fun i _ j _ => by unfold M.diaF; rw [if_neg (by omega)])).mp hO
    have HB0 := Lib.hid hb
    clear hO hb HC
    go_wp2
    go_loopw [6, 14] (fun _ i wr => ∃ k : Nat, k ≤ m ∧ i = .int .i64 k ∧ OwnM wr w.heap.size (.slice a2 m cap2) (M.mk m m (M.diaF (M.ent R) m k)) ∧ Below w.heap.size w wr) (fun _ i _ => m - (intOf i).toNat)
    case atStart => exact ⟨0, Nat.zero_le _, rfl, HO0.out, HB0.out⟩
    case round =>
      obtain ⟨k, hk, rfl, hO, hb⟩ := hrel
      have HO := Lib.hid hO
      have HB := Lib.hid hb
      clear hO hb HO0 HB0
      by_cases hlt : k < m
      · obtain ⟨g, q, L, c, x, rfl, hg, hq, hL, hx, h1, h2, h3, h4⟩ := HO.out.at k k hlt (by rw [M.mk_rowlen _ _ _ _ hlt]; exact hlt)
        rw [M.mk_rowlen _ _ _ _ hlt] at hL
        obtain rfl : m = L := hL.symm
        have hN := h4 0
        rw [M.mk_set _ _ _ _ _ _ hlt] at hN
        have HN := Lib.hid hN
        have hki : (k : Int) < (m : Int) := by omega
        clear hx h4 hN
        go_wp2
        go_roundw
        case rel =>
          refine ⟨k + 1, by omega, by go_num, (congrArg (OwnM _ _ _) (M.mk_congr fun i _ j _ => ?_)).mp HN.out, HB.out.setCell hq _⟩
          unfold M.diaF
          by_cases e : i = k
          · subst e
            by_cases e2 : j = i
            · subst e2; simp
            · rw [if_pos rfl, if_neg e2, if_neg (by omega), if_neg (by omega)]
          · rw [if_neg e]
            by_cases e2 : i = j ∧ i < k
            · rw [if_pos e2, if_pos (by omega)]
            · rw [if_neg e2, if_neg (by omega)]
        case measure => simp [intOf]; omega
      · obtain rfl : k = m := by omega
        go_wp2
        go_ret2
        rw [HF.out]
        refine ⟨_, _, _, rfl, (congrArg (OwnM _ _ _) (M.mk_congr fun i hi j _ => ?_)).mp HO.out, HB.out⟩
        unfold M.diaF M.starF
        by_cases e : i = j
        · rw [if_pos ⟨e, hi⟩, if_pos e]
        · rw [if_neg (by omega), if_neg e]
  · simp only [Bool.not_eq_true] at hp
    have hr2 : r = ([], false) := by rw [hr]; unfold M.plusL; rw [hp]; rfl
    have HF : Hid (M.starL R n = ([], false)) := by show _ = _; unfold M.starL; rw [hp]; rfl
    clear hr hp
    subst hr2
    go_enter Tryz.func110, Tryz.ntmps110
    go_wp2_with fail
    refine HC.mono ?_
    rintro e w1 ⟨a2, m, cap2, rfl, hO, hb⟩
    obtain rfl : m = 0 := by have := hO.len; simpa using this
    have HB0 := Lib.hid hb
    have HO0 := Lib.hid hO
    clear hO hb HC
    go_wp2
    go_loop [14] (fun i => i = .int .i64 0) (fun _ => 0)
    case atStart => rfl
    case round =>
      subst hrel
      go_wp2
      go_ret2
      rw [HF.out]
      exact ⟨_, _, _, rfl, HO0.out, HB0.out⟩



end Go.Proofs.YtmhpgnndjagogaaGreat.V

namespace Go.Proofs.YtmhpgnndjagogaaGreat.V
open Go Go.RowKit

section
variable {P : Program} {ops : Array Oper} {md : Region.Mode} {w : World}
theorem wpIn_of_still {n : Nat} {o : Oper} {a : Act} {K : Act → Prop} {K' : Act → World → Prop} {Q' : Exit → Act → World → Prop} (h : ∀ a, K a → K' a w) (hh : o.still P a w K) : o.wpIn Fence.wide n P a w K' Q' := by
  refine ⟨fun _ _ => trivial, ?_⟩
  show o.uponIn Fence.wide n P a K' Q' ((execOp a.eval o).run P w)
  unfold Oper.still at hh
  generalize (execOp a.eval o).run P w = r at *
  cases r with
  | ok m w' =>
    cases m <;> simp only [Oper.stillUpon] at hh <;> simp only [Oper.uponIn]
    case enter f args =>
      obtain ⟨rfl, v, hc, hn⟩ := hh
      exact ⟨fun h => by simp [Fence.wide] at h, callsIn_wide.2 (hc.mono fun e w'' ⟨he, hw⟩ => by subst he; subst hw; exact h _ hn)⟩
    all_goals (obtain ⟨rfl, h2⟩ := hh; exact h _ h2)
  | halt x w' => simp only [Oper.stillUpon] at hh
theorem wpOpIn_of_stOp {n i : Nat} {a : Act} {K : Act → Prop} {K' : Act → World → Prop} {Q' : Exit → Act → World → Prop} (h : ∀ a, K a → K' a w) (hh : stOp P ops w i K a) : wpOpIn Fence.wide n P ops Q' i K' a w := by
  unfold stOp at hh
  unfold wpOpIn
  split
  · rename_i ho; simp only [ho] at hh; exact h _ hh
  · rename_i o ho
    simp only [ho] at hh
    split
    · rename_i hw; simp only [hw, if_true] at hh; exact wpIn_of_still h hh
    · rename_i hw; simp only [hw] at hh; exact ⟨fun _ _ => trivial, h _ hh⟩
theorem wpAnyIn_of_head {m n g : Nat} {L : Array Bool → Act → Prop} {Q' : Exit → Act → World → Prop} (hL : ∀ listed a, L listed a → wpAnyIn Fence.wide m P md ops Q' g listed a w) :
    ∀ (f : Nat) (listed : Array Bool) (a : Act), wpAnyL P md ops w n L f listed a → wpAnyIn Fence.wide m P md ops Q' (f + g) listed a w
  | 0, listed, a, h => by rw [Nat.zero_add]; exact hL _ _ h
  | f + 1, listed, a, h => by
    rw [show f + 1 + g = (f + g) + 1 by omega]
    exact ⟨fun h0 => absurd h0 h.1, fun i hi => wpOpIn_of_stOp (fun a' h' => wpAnyIn_of_head hL f _ a' h') (h.2 i hi).2⟩
theorem wpAnyIn_of_seq {m : Nat} {Q' : Exit → Act → World → Prop} : ∀ (l : List Oper) (k : Nat) (listed : Array Bool) (a : Act) (w : World), (∀ j, l[j]? = ops[k + j]?) →
    Region.seqB md ops l.length k listed = true → wpListIn Fence.wide m P ops Q' l a w → wpAnyIn Fence.wide m P md ops Q' l.length listed a w
  | [], _, _, _, _, _, hB, h => ⟨by simpa [Region.seqB] using hB, h⟩
  | o :: l, k, listed, a, w, hl, hB, h => by
    have h0 : ops[k]? = some o := by simpa using (hl 0).symm
    simp only [List.length_cons, Region.seqB, Bool.and_eq_true, decide_eq_true_eq] at hB
    refine ⟨fun h1 => (by rw [hB.1] at h1; cases h1), fun i hi => ?_⟩
    rw [hB.1] at hi
    have hik : i = k := by simpa using hi
    subst hik
    have hw : wpOpIn Fence.wide m P ops Q' i (wpListIn Fence.wide m P ops Q' l) a w := by unfold wpOpIn; simp only [h0]; exact h
    exact wpOpIn_mono (fun a' w' h' => wpAnyIn_of_seq l (i + 1) _ a' w' (fun j => by have := hl (j + 1); simpa [Nat.add_assoc, Nat.add_comm 1 j] using this) hB.2 h') hw
theorem wpIn_region_still_tail {id m : Nat} {Q : Exit → Act → World → Prop} {a : Act} {w : World} {l : List Oper} (n : Nat) (hm : P.follows .mixedOrders = true) (hB : Region.lexTailB .any l.toArray n = true)
    (h : wpStill P l.toArray { w with drawn := w.drawn + 1 } (fun a' => wpListIn Fence.wide m P l.toArray Q (l.drop n) a' { w with drawn := w.drawn + 1 }) (l.take n) a) : (Code.region id l.toArray true).wpIn Fence.wide m P Q a w := by
  simp only [Region.lexTailB, Bool.and_eq_true, decide_eq_true_eq] at hB
  obtain ⟨⟨⟨⟨hsel, hn⟩, hs⟩, hc⟩, hlex⟩ := hB
  have hn' : n < l.length := by simpa using hn
  have htl : (l.take n).length = n := by simp; omega
  have hdl : (l.drop n).length = l.toArray.size - n := by simp
  have inv0 : HeadInv .any l.toArray n (Array.replicate l.toArray.size false) :=
    ⟨by simp, fun j oj _ hl => (by rw [getD_replicate_false] at hl; cases hl), fun t _ ht => getD_in (by simpa using ht) (getD_replicate_false _ _)⟩
  have H := wpAnyL_lex (md := .any) (g := l.toArray.size - n) hsel hs hc hn (l.take n) 0 _ a (fun j hj => by
    have hj' : j < n := by rw [htl] at hj; exact hj
    simp [hj']) (by simpa using htl) inv0 (by rw [htl]; exact hlex) h
  refine wpIn_region_any hm ?_
  have := wpAnyIn_of_head (m := m) (Q' := Q) (g := l.toArray.size - n) (fun listed a' hL => by
    have := wpAnyIn_of_seq (m := m) (md := .any) (Q' := Q) (l.drop n) n listed a' { w with drawn := w.drawn + 1 } (fun j => by simp [List.getElem?_drop]) (by rw [hdl]; exact hL.1) hL.2
    rwa [hdl] at this) _ _ _ H
  rw [htl, show n + (l.toArray.size - n) = l.toArray.size by omega] at this
  exact this
end
end Go.Proofs.YtmhpgnndjagogaaGreat.V

namespace Go.Proofs.YtmhpgnndjagogaaGreat.V
open Go Go.RowKit

/-- Of the blocks that were there, at most k₀ has changed. -/
def Chg1 (k₀ : Nat) (A B : World) : Prop := B.os = A.os ∧ B.tape = A.tape ∧ B.output = A.output ∧ A.heap.size ≤ B.heap.size ∧ ∀ k, k < A.heap.size → k ≠ k₀ → B.heap[k]? = A.heap[k]?
theorem Chg1.refl (k₀ : Nat) (A : World) : Chg1 k₀ A A := ⟨rfl, rfl, rfl, Nat.le_refl _, fun _ _ _ => rfl⟩
theorem Chg1.trans {k₀ : Nat} {A B C : World} (h : Chg1 k₀ A B) (g : Chg1 k₀ B C) : Chg1 k₀ A C :=
  ⟨g.1.trans h.1, g.2.1.trans h.2.1, g.2.2.1.trans h.2.2.1, Nat.le_trans h.2.2.2.1 g.2.2.2.1, fun k hk hne => (g.2.2.2.2 k (Nat.lt_of_lt_of_le hk h.2.2.2.1) hne).trans (h.2.2.2.2 k hk hne)⟩
theorem Chg1.drew (k₀ : Nat) {A B : World} (h : Chg1 k₀ A B) : Chg1 k₀ A B.drew := ⟨h.1, h.2.1, h.2.2.1, h.2.2.2.1, h.2.2.2.2⟩
theorem Chg1.setCell {A B : World} {p : Addr} (h : Chg1 p.block A B) (v : Value) : Chg1 p.block A (B.setCell p v) :=
  ⟨h.1, h.2.1, h.2.2.1, by have := h.2.2.2.1; simpa [World.setCell] using this, fun k hk hne => (Below.heap_setCell B p v k hne).trans (h.2.2.2.2 k hk hne)⟩
theorem Chg1.putObj (A : World) (l : Nat) (o : Obj) : Chg1 l A (A.putObj l o) := ⟨rfl, rfl, rfl, by simp, fun k _ hne => World.putObj_heap_other hne⟩

/-- How a round may end: all as it was, or a jump out of the loop. -/
def EndOf (D l : Nat) (Go : Array Value → Prop) (Stop : Nat → Array Value → World → World → Prop) (x : Array Value) (W Wb : World) : Exit → Act → World → Prop
  | .normal, _, W3 => Below W.heap.size Wb W3 ∧ Go x
  | .exit id, _, W3 => W3.heap[D]? = Wb.heap[D]? ∧ W3.heap[l]? = Wb.heap[l]? ∧ Wb.heap.size ≤ W3.heap.size ∧ (∀ k, D + 2 ≤ k → k < W.heap.size → W3.heap[k]? = Wb.heap[k]?) ∧ Stop id x W W3
  | _, _, _ => False

theorem rangeState {P : Program} {n : Nat} {g : Operand} {ps : Array Tmp} {assign body : Code} {Q : Exit → Act → World → Prop} {a : Act} {w : World}
    {gf : Nat} {lb : Array Value} (hg : a.eval g = .func (.func gf) #[] lb) (eg : ∀ args w, (callFunc gf args).run P w = .ok (.enter gf args) w)
    (Pre : Array Value → World → Prop) (hps : ∀ x W, Pre x W → x.size = ps.size) (Go : Array Value → Prop) (Stop : Nat → Array Value → World → World → Prop) (Fin : Prop)
    (hMove : ∀ id x W A B k₀, Stop id x W A → Chg1 k₀ A B → (k₀ = w.heap.size + 1 ∨ (w.heap.size + 2 ≤ k₀ ∧ k₀ < W.heap.size)) → Stop id x W B)
    (hiter : ∀ (T : Array Value → World → World → Prop) (W1 : World), Below w.heap.size w W1 → W1.heap.size = w.heap.size + 2 →
      (∀ x W m, Pre x W → Below (w.heap.size + 2) W1 W → YieldAt Fence.wide m P (w.heap.size + 1) x W fun e W' => (e = .returned (.bool true) ∧ Below W.heap.size W W' ∧ Go x) ∨ (e = .returned (.bool false) ∧ T x W W' ∧ W.heap.size ≤ W'.heap.size ∧ ∀ k, w.heap.size + 2 ≤ k → k < W.heap.size → W'.heap[k]? = W.heap[k]?)) →
      CallsIn Fence.wide (n - 1) P gf (#[.func (.yield (w.heap.size + 1)) #[] #[]] ++ lb) W1 fun e W' => (∃ v, e = .returned v) ∧
        ((Fin ∧ Below (w.heap.size + 2) W1 W') ∨ ∃ x W2 W3 S, Pre x W2 ∧ Below (w.heap.size + 2) W1 W2 ∧ T x W2 W3 ∧ w.heap.size + 2 ≤ S ∧ S < W2.heap.size ∧ W2.heap.size ≤ W3.heap.size ∧ Chg1 S W3 W'))
    (a₁ : Array Value → Act)
    (hassign : ∀ l x W m (K : Act → World → Prop), Pre x W → K (a₁ x) W → assign.wpIn (Fence.wide.inRound l) m P (Exit.then K (fun _ _ _ => False)) { tmps := (ps.zip x).foldl (fun t (p, v) => t.setIfInBounds p v) a.tmps, defers := [] } W)
    (hbody : ∀ x W o m, Pre x W → Below w.heap.size w W → w.heap.size + 2 ≤ W.heap.size → body.wpIn (Fence.wide.inRound (w.heap.size + 1)) m P (EndOf w.heap.size (w.heap.size + 1) Go Stop x W (W.putObj (w.heap.size + 1) o)) (a₁ x) (W.putObj (w.heap.size + 1) o))
    (hdone : ∀ W, Fin → Below w.heap.size w W → w.heap.size + 2 ≤ W.heap.size → W.heap[w.heap.size]? = some (.deferred (some [])) → Q .normal { a with defers := { target := .collected w.heap.size, args := #[] } :: a.defers } W)
    (hstop : ∀ id x W2 W, Pre x W2 → Below w.heap.size w W2 → Stop id x W2 W → W.heap[w.heap.size]? = some (.deferred (some [])) → (Code.exit id).wpIn Fence.wide n P Q { a with defers := { target := .collected w.heap.size, args := #[] } :: a.defers } W) :
    (Code.rangeFunc g ps assign body).wpIn Fence.wide n P Q a w := by
  refine wpIn_rangeFunc ?_
  intro fn hfn
  obtain ⟨rec, hrec⟩ : ∃ rec : LoopState → Option Code → Loop, rec = fun st pe => { state := st, pending := pe, fn, tmps := a.tmps, params := ps, assign, body, defers := w.heap.size } := ⟨_, rfl⟩
  obtain ⟨W1, hW1⟩ : ∃ W1, (w.alloc (.deferred (some []))).alloc (.loop (rec .ready none)) = W1 := ⟨_, rfl⟩
  have hL1 : W1.heap[w.heap.size + 1]? = some (.loop (rec .ready none)) := by
    rw [← hW1]; have := World.alloc_heap_new (w.alloc (.deferred (some []))) (.loop (rec .ready none)); rwa [World.size_alloc] at this
  have hK1 : W1.heap[w.heap.size]? = some (.deferred (some [])) := by
    rw [← hW1]; exact (Below.heap_alloc _ _ _ (by simp)).trans (World.alloc_heap_new w _)
  have hb1 : Below w.heap.size w W1 := by
    rw [← hW1]; exact ((Below.refl _ w).alloc (Nat.le_refl _) _).alloc (by simp) _
  have hs1 : W1.heap.size = w.heap.size + 2 := by rw [← hW1]; simp
  refine ⟨w.heap.size + 1, [{ target := .collected w.heap.size, args := #[] }], W1, { target := .fn (.func gf) lb, args := #[.func (.yield (w.heap.size + 1)) #[] #[]] }, W1, gf,
    #[.func (.yield (w.heap.size + 1)) #[] #[]] ++ lb, W1, ?_, ?_, fun _ _ => trivial, ?_, fun h => by simp [Fence.wide] at h, ?_⟩
  · rw [← hW1, hrec]; exact run_enterLoop_outer _ _ _ _ _
  · simp only [resolve, hg]
    simp [go_sem]
  · simp [invoke, go_sem, eg]
  · refine (hiter (fun x W W' => ∃ id, Stop id x W W' ∧ W'.heap[w.heap.size + 1]? = some (.loop (rec .done (some (.exit id)))) ∧ W'.heap[w.heap.size]? = some (.deferred (some []))) W1 hb1 hs1 ?_).mono ?_
    · intro x W m hp hbW
      have hsz : w.heap.size + 2 ≤ W.heap.size := by have := hbW.size; omega
      have hl : W.heap[w.heap.size + 1]? = some (.loop (rec .ready none)) := (hbW.block _ (by omega)).trans hL1
      have hk : W.heap[w.heap.size]? = some (.deferred (some [])) := (hbW.block _ (by omega)).trans hK1
      have hy := run_yield (P := P) (args := x) hl (by rw [hrec]; exact hps x W hp)
      rw [hrec] at hy
      refine ⟨fn, _, assign, body, hy, roundIn_of_wpIn trivial (hassign _ x W _ _ hp ⟨_, run_beginRound hl (by rw [hrec]), ?_⟩)⟩
      have hl2 : (W.putObj (w.heap.size + 1) (.loop { rec .ready none with state := .busy })).heap[w.heap.size + 1]? = some (.loop { rec .ready none with state := .busy }) := World.putObj_heap_same (by omega)
      have hk2 : (W.putObj (w.heap.size + 1) (.loop { rec .ready none with state := .busy })).heap[w.heap.size]? = some (.deferred (some [])) := (World.putObj_heap_other (by omega)).trans hk
      refine wpIn_mono (hbody x W _ _ hp (hb1.trans (hbW.mono (by omega))) hsz) ?_
      rintro e a3 W3 hq
      cases e with
      | normal =>
        obtain ⟨hq, hgo⟩ := hq
        have hl3 := (hq.block _ (by omega)).trans hl2
        have hr := run_endRound (P := P) none hl3
        refine ⟨_, _, hr, .inl ⟨rfl, ⟨hq.os, hq.tape, hq.output, ?_, ?_⟩, hgo⟩⟩
        · have := hq.size; simpa using this
        · intro k hk'
          by_cases e : k = w.heap.size + 1
          · subst e
            rw [World.putObj_heap_same (by have := hq.size; simp at this; omega), hl, hrec]; rfl
          · rw [World.putObj_heap_other e, hq.block k hk', World.putObj_heap_other e]
      | exit id =>
        obtain ⟨h1, h2, h4, h5, h3⟩ := hq
        have hl3 := h2.trans hl2
        have hr := run_endRound (P := P) (some (.exit id)) hl3
        refine ⟨_, _, hr, .inr ⟨rfl, ⟨id, hMove _ _ _ _ _ _ h3 (Chg1.putObj _ _ _) (.inl rfl), ?_, (World.putObj_heap_other (by omega)).trans (h1.trans hk2)⟩, by simpa using h4, fun k hk3 hk4 => (World.putObj_heap_other (by omega)).trans ((h5 k hk3 hk4).trans (World.putObj_heap_other (by omega)))⟩⟩
        rw [World.putObj_heap_same (Array.getElem?_eq_some_iff.1 hl3).1, hrec]; rfl
      | ret => exact hq.elim
      | goto t => exact hq.elim
      | panic ch => exact hq.elim
      | outgrown => exact hq.elim
    · rintro e W2 ⟨⟨v, rfl⟩, (⟨hF, hb⟩ | ⟨x, A, B, S, hp, hbA, ⟨id, hS, hl, hk⟩, hS1, hS2, hAB, hc⟩)⟩
      · have hl : W2.heap[w.heap.size + 1]? = some (.loop (rec .ready none)) := (hb.block _ (by omega)).trans hL1
        have hk : W2.heap[w.heap.size]? = some (.deferred (some [])) := (hb.block _ (by omega)).trans hK1
        have hsz : w.heap.size + 2 ≤ W2.heap.size := by have := hb.size; omega
        refine ⟨none, _, by have := run_endLoop (P := P) hl (by rw [hrec]; simp); rw [hrec] at this; exact this, hdone _ hF ?_ (by simpa using hsz) ((World.putObj_heap_other (by omega)).trans hk)⟩
        have := hb1.trans (hb.mono (by omega : w.heap.size ≤ w.heap.size + 2))
        exact ⟨this.os, this.tape, this.output, by have := this.size; simpa using this, fun k hk' => (World.putObj_heap_other (by omega)).trans (this.block k hk')⟩
      · have hBl := (Array.getElem?_eq_some_iff.1 hl).1
        have hl2 : W2.heap[w.heap.size + 1]? = some (.loop (rec .done (some (.exit id)))) := (hc.2.2.2.2 _ hBl (by omega)).trans hl
        have hk2 : W2.heap[w.heap.size]? = some (.deferred (some [])) := (hc.2.2.2.2 _ (by omega) (by omega)).trans hk
        refine ⟨some (.exit id), _, by have := run_endLoop (P := P) hl2 (by rw [hrec]; simp); rw [hrec] at this; exact this, hstop id x A _ hp (hb1.trans (hbA.mono (by omega))) ?_ ((World.putObj_heap_other (by omega)).trans hk2)⟩
        exact hMove _ _ _ _ _ _ (hMove _ _ _ _ _ _ hS hc (.inr ⟨hS1, hS2⟩)) (Chg1.putObj _ _ _) (.inl rfl)
end Go.Proofs.YtmhpgnndjagogaaGreat.V
