/- Texts laid together: Fap. -/
import Derived.Test.YtjbffpmelglegaaQa68
import Derived.Deep.RegionLaw
set_option linter.unusedSimpArgs false
set_option linter.unusedVariables false
set_option linter.unusedSectionVars false
namespace Go.Proofs.Ytjbffpmelglegaa
namespace V
set_option maxRecDepth 100000
open Go.RowKit
theorem infoF_parts : ∃ i, Try.prog.info? 77 = some i ∧ i.zero = some (.agg #[.int .i64 0, .int .i64 0, .int .i64 0]) ∧ i.size = 3 ∧ i.bytes = 24 := by
  obtain ⟨i, hi, hzz⟩ := Option.map_eq_some_iff.1 infoF
  simp only [Prod.mk.injEq] at hzz
  exact ⟨i, hi, hzz⟩
theorem frs_cells {w : World} {b off m : Nat} {k : List M.Fr} (h : Frs w (some ⟨b, off, none⟩) m k) : ∀ j u, (fcells k)[j]? = some u → w.cell? ((⟨b, off, none⟩ : Addr).add j) = some u := fun j u hj => by
  have hlt : j < k.length * 3 := by
    apply Classical.byContradiction
    intro q
    rw [List.getElem?_eq_none (by rw [fcells_len]; omega)] at hj; cases hj
  rw [fcells_get k hlt] at hj
  injection hj with hj
  subst hj
  have hm := h.1
  obtain ⟨b', o', p0, p1, p2, e, -, hp, c0, c1, c2⟩ := h.at (j / 3) (by omega)
  injection e with e
  injection e with e1 e2
  subst e1 e2
  have ad : (⟨b, off, none⟩ : Addr).add j = ⟨b, off + j, none⟩ := by unfold Addr.add; split <;> simp_all
  rw [ad, hp]
  have h4 : j % 3 = 0 ∨ j % 3 = 1 ∨ j % 3 = 2 := by omega
  rcases h4 with q | q | q
  · rw [q, show off + j = off + j / 3 * 3 by omega]; exact c0
  · rw [q, show off + j = off + j / 3 * 3 + 1 by omega]; exact c1
  · rw [q, show off + j = off + j / 3 * 3 + 2 by omega]; exact c2
theorem fcells_one_cell {k : List M.Fr} : ∀ u ∈ fcells k, u.oneCell' = true := fun u hu => by
  unfold fcells at hu
  obtain ⟨q, -, rfl⟩ := List.mem_map.1 hu
  rfl
/-- What an append of firings leaves. -/
def AppF (w : World) (B : Nat) (v : Value) (l : List M.Fr) (n : Nat) (v' : Value) (w' : World) : Prop :=
  ∃ g c, v' = .slice (some ⟨g, 0, none⟩) n c ∧ OwnFr w' B (.slice (some ⟨g, 0, none⟩) n c) l ∧ Below B w w' ∧ (∀ q, q < w.heap.size → v.ownBlock ≠ some q → w'.heap[q]? = w.heap[q]?) ∧ ((Value.slice (some ⟨g, 0, none⟩) n c).ownBlock = v.ownBlock ∨ w.heap.size ≤ g)
theorem appF_of {w w' : World} {B : Nat} {v v' : Value} {l k : List M.Fr} {n m : Nat} (hn : l.length = n) (hm : k.length = m) (hown : OwnFr w B v l) (hv : v ≠ .slice none 0 0) (hB : B ≤ w.heap.size) (h2 : w'.ownsRow B 77 3 v' (l.length + m) (fcells l ++ fcells k)) (h3 : w.grownBy w' v.ownBlock) (h4 : v' = .slice none 0 0 ↔ v = .slice none 0 0 ∧ m = 0) (h5 : v'.ownBlock = v.ownBlock ∨ v'.ownBlock = some w.heap.size) : AppF w B v (l ++ k) (n + m) v' w' := by
  subst hn hm
  have ho : OwnFr w' B v' (l ++ k) := by
    show w'.ownsRow B _ 3 v' (l ++ k).length (fcells (l ++ k))
    rw [fcells_app, List.length_append]
    exact h2
  have hb : Below B w w' := (Below.refl B w).grown h3 hB (fun q hq => (hown.lt hq).1)
  have hfr : ∀ q, q < w.heap.size → v.ownBlock ≠ some q → w'.heap[q]? = w.heap[q]? := fun q hq hne => by
    obtain ⟨g1, g2, g3, g4, g5⟩ := h3
    exact g5 q hq (fun e => hne e.symm)
  have ho' := ho
  obtain ⟨-, h⟩ := ho
  rcases h with ⟨h, -⟩ | ⟨g, cap, cur, h, hr⟩
  · exact absurd (h4.1 h).1 hv
  · rw [List.length_append] at h
    subst h
    refine ⟨g, cap, rfl, by simpa using ho', hb, hfr, ?_⟩
    rcases h5 with e | e
    · exact .inl e
    · simp [Value.ownBlock] at e
      exact .inr (by omega)
theorem step_appendFr (w : World) {ops : Array Oper} {o : Oper} {a : Act} {K : Act → World → Prop} {Q : Exit → Act → World → Prop} {E : Prop} (hgd : o.guard = none) (s x : Operand)
    (ho : o.op = .call { callee := .builtin .append, args := #[s, x], argTypes := #[27, 27] }) (B : Nat) (v : Value) (l k : List M.Fr) (n m b off c : Nat) (hn : l.length = n) (hs : a.eval s = v) (hown : OwnFr w B v l) (hv : v ≠ .slice none 0 0)
    (hx : a.eval x = .slice (some ⟨b, off, none⟩) m c) (hk : Frs w (some ⟨b, off, none⟩) m k) (hlen : n + m ≤ 2000000) (hB : B ≤ w.heap.size)
    (h : ∀ v' w', AppF w B v (l ++ k) (n + m) v' w' → K (a.put o.dst v') w') :
    if Region.wanted o (yielded ops a.tmps) = true then Oper.wp Try.prog o a w K Q else E := by
  have hw : Region.wanted o (yielded ops a.tmps) = true := by simp [Region.wanted, hgd]
  rw [if_pos hw]
  obtain ⟨i0, hi, hz0, hz1, hz2⟩ := infoF_parts
  obtain ⟨v', w', hr, h2, h3, h4, h5⟩ := run_append_own_at (P := Try.prog) w B 27 o.type 77 i0 _ 3 24 Try.underlying27 hi hz0 hz1 hz2 rfl (by decide) v _ _ hown ⟨b, off, none⟩ m c (fcells k) (by rw [fcells_len, hk.1]) (frs_cells hk) fcells_one_cell (by unfold maxLen; omega) (by omega) hB
  unfold Oper.wp execOp
  simp only [ho, resolve, invoke, builtin, Sem.run_bind, Sem.run_pure, Result.andThen_ok, List.map_toArray, List.map_cons, List.map_nil, hs, hx, hr]
  exact h v' w' (appF_of hn hk.1 hown hv hB h2 h3 h4 h5)
theorem ownFr_lit0 (w : World) (B : Nat) (hB : B ≤ w.heap.size) : OwnFr (w.alloc (.cells #[] 77)) B (.slice (some ⟨w.heap.size, 0, none⟩) 0 0) [] :=
  World.ownsRow_lit w #[] 0 hB (by decide) rfl
/-- One firing, in a new block. -/
theorem frs_one (w : World) (p0 p1 p2 : Int) : Frs (w.alloc (.cells #[.int .i64 p0, .int .i64 p1, .int .i64 p2] 77)) (some ⟨w.heap.size, 0, none⟩) 1 [(p0, p1, p2)] := by
  refine ⟨rfl, by decide, .inr ⟨_, _, rfl, by simp, fun i hi => ?_⟩⟩
  obtain rfl : i = 0 := by omega
  refine ⟨?_, ?_, ?_⟩ <;> simp [go_sem]
end V
end Go.Proofs.Ytjbffpmelglegaa
