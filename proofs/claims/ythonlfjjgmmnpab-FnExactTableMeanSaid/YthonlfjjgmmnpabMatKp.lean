/- A matrix that is kept while a list of ratios grows. -/
import Derived.Test.YthonlfjjgmmnpabRt
import Derived.Test.YthonlfjjgmmnpabMat0
namespace Go.Proofs.Ythonlfjjgmmnpab.V
open Go.RowKit
/-- As appendR, with what stays as it was. -/
theorem appendR2 (w : World) {ops : Array Oper} {rest : List Oper} {o : Oper} {a : Act} {Q : Exit → Act → World → Prop} (hgd : o.guard = none) (s x : Operand)
    (ho : o.op = .call { callee := .builtin .append, args := #[s, x], argTypes := #[105, 105] }) (B : Nat) (v : Value) (l : List (Int × Int)) (p : Int × Int) (n g : Nat) (hn : l.length = n) (hs : a.eval s = v) (hown : OwnR w B v l)
    (hx : a.eval x = .slice (some ⟨g, 0, none⟩) 1 1) (hy1 : w.cell? ⟨g, 0, none⟩ = some (.int .i64 p.1)) (hy2 : w.cell? ⟨g, 1, none⟩ = some (.int .i64 p.2)) (hlen : l.length ≤ 2000000) (hB : B ≤ w.heap.size)
    (h : ∀ b' c' w', OwnR w' B (.slice b' (n + 1) c') (l ++ [p]) → Below B w w' → (∀ k, k < w.heap.size → v.ownBlock ≠ some k → w'.heap[k]? = w.heap[k]?) → ((Value.slice b' (n + 1) c').ownBlock = v.ownBlock ∨ (Value.slice b' (n + 1) c').ownBlock = some w.heap.size) → wpList Try.prog ops Q rest (a.put o.dst (.slice b' (n + 1) c')) w') :
    wpList Try.prog ops Q (o :: rest) a w := by
  subst hn
  obtain ⟨i0, hi, hz0, hz1, hz2⟩ := info_parts infoR
  refine wpList_append_own_at (w := w) hgd s x 105 ho B 27 i0 (.agg #[.int .i64 0, .int .i64 0]) 2 16 Try.underlying105 hi hz0 hz1 hz2 rfl (by decide) v _ _ hs hown ⟨g, 0, none⟩ 1 1 [.int .i64 p.1, .int .i64 p.2] hx rfl ?c1 ?c2 ?c3 ?c4 hB ?_
  case c1 =>
    intro j u hj
    match j, hj with
    | 0, hj => simp at hj; subst hj; exact hy1
    | 1, hj => simp at hj; subst hj; exact hy2
    | j + 2, hj => simp at hj
  case c2 => intro u hu; simp at hu; rcases hu with rfl | rfl <;> rfl
  case c3 => unfold maxLen; omega
  case c4 => omega
  · intro v' w' hown' hgrow hz hvb
    have ho' : OwnR w' B v' (l ++ [p]) := by
      show w'.ownsRow B _ 2 v' (l ++ [p]).length (rcells (l ++ [p]))
      rw [rcells_snoc]
      simpa using hown'
    obtain ⟨b', c', hv', _⟩ := ho'.form
    rw [show (l ++ [p]).length = l.length + 1 by simp] at hv'
    subst hv'
    have hb := (Below.refl B w).grown hgrow hB (fun k hk => (OwnR.lt hown hk).1)
    obtain ⟨g1, g2, g3, g4, g5⟩ := hgrow
    exact h b' c' w' ho' hb (fun k hk hne => g5 k hk (fun e => hne e.symm)) hvb
/-- A matrix whose blocks lie apart from a list that grows. -/
def MatK (wr : World) (v : Value) (a : Option Addr) (n : Nat) (R : List (List Int)) : Prop :=
  ∃ lo hi, (∀ w', Below 0 wr w' → (∀ k, lo ≤ k → k < hi → w'.heap[k]? = wr.heap[k]?) → Mat w' a n R) ∧ hi ≤ wr.heap.size ∧ ∀ g, v.ownBlock = some g → g < lo ∨ hi ≤ g
theorem MatK.mat {wr : World} {v : Value} {a : Option Addr} {n : Nat} {R : List (List Int)} (h : MatK wr v a n R) : Mat wr a n R := by
  obtain ⟨lo, hi, h1, -, -⟩ := h
  exact h1 wr (Below.refl _ _) fun _ _ _ => rfl
theorem below0 {B : Nat} {w w' : World} (hb : Below B w w') : Below 0 w w' := hb.mono (Nat.zero_le _)
theorem MatK.step {wr w' : World} {v v' : Value} {a : Option Addr} {n : Nat} {R : List (List Int)} (h : MatK wr v a n R) (hb : Below 0 wr w') (hk : ∀ k, k < wr.heap.size → v.ownBlock ≠ some k → w'.heap[k]? = wr.heap[k]?)
    (hv : v'.ownBlock = v.ownBlock ∨ v'.ownBlock = some wr.heap.size) : MatK w' v' a n R := by
  obtain ⟨lo, hi, h1, h2, h3⟩ := h
  have hs := hb.size
  refine ⟨lo, hi, fun w2 hb2 hk2 => h1 w2 (hb.trans hb2) fun k k1 k2 => (hk2 k k1 k2).trans (hk k (by omega) fun e => ?_), by omega, fun g hg => ?_⟩
  · have := h3 k e; omega
  · rcases hv with hv | hv
    · exact h3 g (hv.symm.trans hg)
    · rw [hv] at hg; injection hg with hg; omega
theorem MatK.below {wr w' : World} {v : Value} {a : Option Addr} {n : Nat} {R : List (List Int)} (h : MatK wr v a n R) (hb : Below wr.heap.size wr w') : MatK w' v a n R :=
  h.step (below0 hb) (fun k hk _ => hb.block k hk) (.inl rfl)
/-- At the start: a matrix that was there before the list. -/
theorem matK_old {w wr : World} {v : Value} {a : Option Addr} {n : Nat} {R : List (List Int)} (h : Mat w a n R) (hb : Below w.heap.size w wr) (hv : ∀ g, v.ownBlock = some g → w.heap.size ≤ g) : MatK wr v a n R :=
  ⟨0, w.heap.size, fun _ hb2 hk => h.below ⟨hb2.os.trans hb.os, hb2.tape.trans hb.tape, hb2.output.trans hb.output, Nat.le_trans hb.size hb2.size, fun k hk2 => (hk k (Nat.zero_le _) hk2).trans (hb.block k hk2)⟩, hb.size, fun g hg => .inr (hv g hg)⟩
/-- A matrix that was made after the list's last growth. -/
theorem matK_new {w wr : World} {v : Value} {a : Option Addr} {n c : Nat} {R : List (List Int)} (h : OwnM wr w.heap.size (.slice a n c) R) (hv : ∀ g, v.ownBlock = some g → g < w.heap.size) : MatK wr v a n R :=
  ⟨w.heap.size, wr.heap.size, fun _ _ hk => (h.keep hk).mat, Nat.le_refl _, fun g hg => .inl (hv g hg)⟩
end Go.Proofs.Ythonlfjjgmmnpab.V
