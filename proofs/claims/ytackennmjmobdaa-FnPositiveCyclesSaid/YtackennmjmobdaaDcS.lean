/- Steps of the region in which a cycle is turned. -/
import Derived.Test.YtackennmjmobdaaDc
import Derived.Test.YtackennmjmobdaaPth4
namespace Go.Proofs.Ytackennmjmobdaa.V
open Go.RowKit
theorem cell_blk {w w' : World} {p : Addr} (h : w'.heap[p.block]? = w.heap[p.block]?) : w'.cell? p = w.cell? p := World.cell?_of_block (w := w) h
theorem keep_a {p : Addr} {v : Value} {w w' : World} {B : Nat} {w0 : World} (h : w'.cell? p = some v ∧ Below B w0 w') (hp : p.block < B) (hB : B ≤ w0.heap.size) (o : Obj) : (w'.alloc o).cell? p = some v ∧ Below B w0 (w'.alloc o) := by
  have hz := h.2.size
  exact ⟨((b_alloc w' o).cell (by omega)).trans h.1, h.2.alloc (by omega) o⟩
theorem keep_b {p : Addr} {v : Value} {w' w2 : World} {B : Nat} {w0 : World} (h : w'.cell? p = some v ∧ Below B w0 w') (hp : p.block < B) (hb : Below B w' w2) : w2.cell? p = some v ∧ Below B w0 w2 :=
  ⟨(hb.cell hp).trans h.1, h.2.trans hb⟩
theorem below_r {A : Prop} {B : Nat} {w0 w' : World} (h : A ∧ Below B w0 w') : Below B w0 w' := h.2

/-- The integers of a slice are appended to a new empty list, at a step of a region. -/
theorem step_appendP (w : World) {ops : Array Oper} {o : Oper} {a : Act} {K : Act → World → Prop} {Q : Exit → Act → World → Prop} {E : Prop} (hgd : o.guard = none) (s x : Operand)
    (ho : o.op = .call { callee := .builtin .append, args := #[s, x], argTypes := #[28, 28] }) (B : Nat) (v : Value) (l2 : List Int) (pa : Option Addr) (m c : Nat) (hm : l2.length = m) (hs : a.eval s = v) (hown : Own w B v [])
    (hx : a.eval x = .slice pa m c) (hpa : ∃ ad, pa = some ad ∧ ∀ i, i < m → w.cell? (ad.add i) = some (.int .i64 (l2.getD i 0))) (hlen : m ≤ 1000) (hB : B ≤ w.heap.size)
    (h : ∀ b' c' w', Own w' B (.slice b' m c') l2 → Below B w w' → (∀ k, k < w.heap.size → v.ownBlock ≠ some k → w'.heap[k]? = w.heap[k]?) → K (a.put o.dst (.slice b' m c')) w') :
    if Region.wanted o (yielded ops a.tmps) = true then Oper.wp Try.prog o a w K Q else E := by
  subst hm
  obtain ⟨ad, rfl, hy⟩ := hpa
  obtain ⟨i0, hi, hz0, hz1, hz2⟩ := info_parts info64
  have hw : Region.wanted o (yielded ops a.tmps) = true := by simp [Region.wanted, hgd]
  rw [if_pos hw]
  obtain ⟨v', w', hr, h2, h3, -, -⟩ := run_append_own_at (P := Try.prog) w B 28 o.type 2 i0 (.int .i64 0) 1 8 Try.underlying28 hi hz0 hz1 hz2 rfl (by decide) v 0 [] hown ad l2.length c (l2.map (Value.int .i64)) (by simp) (fun j u hj => by
      have hj2 : j < l2.length := by
        have := (List.getElem?_eq_some_iff.1 hj).1
        simpa using this
      rw [hy j hj2, ← hj]
      simp [hj2]) (fun u hu => by obtain ⟨x, _, rfl⟩ := List.mem_map.1 hu; rfl) (by unfold maxLen; omega) (by omega) hB
  have ho' : Own w' B v' l2 := by
    show w'.ownsRow B _ 1 v' l2.length (l2.map (Value.int .i64))
    simpa using h2
  obtain ⟨b', c', hv, -⟩ := own_form ho'
  subst hv
  unfold Oper.wp execOp
  simp only [ho, resolve, invoke, builtin, Sem.run_bind, Sem.run_pure, Result.andThen_ok, List.map_toArray, List.map_cons, List.map_nil, hs, hx, hr]
  refine h b' c' w' ho' ((Below.refl B w).grown h3 hB (fun k hk => (own_lt hown hk).1)) (fun k hk hne => ?_)
  obtain ⟨g1, g2, g3, g4, g5⟩ := h3
  exact g5 k hk (fun e => hne e.symm)
end Go.Proofs.Ytackennmjmobdaa.V
