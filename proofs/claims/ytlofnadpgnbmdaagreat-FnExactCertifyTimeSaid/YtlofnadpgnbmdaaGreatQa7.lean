/- Texts laid together: Grf, Grg, Grh. -/
import Derived.Test.YtlofnadpgnbmdaaGreatQa4
import Derived.Test.YtlofnadpgnbmdaaGreatQa6
import Derived.Deep.RegionLaw
import Derived.Lib.SliceRun
set_option linter.unusedSimpArgs false
set_option linter.unusedVariables false
set_option linter.unusedSectionVars false
namespace Go.Proofs.YtlofnadpgnbmdaaGreat
namespace M
def pTo (p : Pc) : Int := p.2.1
def pFrom (p : Pc) : Int := p.1
def plcL (f : Pc → Int) (l : List Pc) (ev : Int) (k : Nat) : List Int := ((List.range k).filter fun i => decide (f (l.getD i pz) = ev)).map fun i : Nat => (i : Int)
def evCode (e : Int) (l : List Pc) (ev : Int) : Int := if isGr e l then (if inB ev 0 (e - 1) then 0 else 2) else 1
def plcRes (f : Pc → Int) (e : Int) (l : List Pc) (ev : Int) : List Int × Int := if isGr e l then (if inB ev 0 (e - 1) then (plcL f l ev l.length, 0) else ([], 2)) else ([], 1)
theorem plcL_next (f : Pc → Int) (l : List Pc) (ev : Int) (k : Nat) : plcL f l ev (k + 1) = if f (l.getD k pz) = ev then plcL f l ev k ++ [(k : Int)] else plcL f l ev k := by
  unfold plcL
  rw [List.range_succ, List.filter_append, List.map_append]
  by_cases h : f (l.getD k pz) = ev
  · rw [if_pos h, List.filter_cons_of_pos (by rw [decide_eq_true_iff]; exact h)]; rfl
  · rw [if_neg h, List.filter_cons_of_neg (by rw [decide_eq_true_iff]; exact h)]; simp
theorem plcL_len (f : Pc → Int) (l : List Pc) (ev : Int) (k : Nat) : (plcL f l ev k).length ≤ k := by
  unfold plcL
  rw [List.length_map]
  exact Nat.le_trans (List.length_filter_le _ _) (by simp)
theorem plcRes_len (f : Pc → Int) (e : Int) (l : List Pc) (ev : Int) : (plcRes f e l ev).1.length ≤ 30 := by
  unfold plcRes
  cases h : isGr e l with
  | false => simp
  | true =>
    have hl : l.length ≤ 30 := by
      unfold isGr at h
      simp only [Bool.and_eq_true, decide_eq_true_iff] at h
      exact h.2.1
    cases h2 : inB ev 0 (e - 1) with
    | false => simp
    | true => have := plcL_len f l ev l.length; simp; omega
theorem isGr_in {e : Int} {l : List Pc} (h : isGr e l = true) : inB e 1 10 = true ∧ l.length ≤ 30 := by
  unfold isGr at h
  simp only [Bool.and_eq_true, decide_eq_true_iff] at h
  exact ⟨h.1, h.2.1⟩
end M
namespace V
set_option maxRecDepth 100000
open Go.RowKit
end V
end Go.Proofs.YtlofnadpgnbmdaaGreat

namespace Go.Proofs.YtlofnadpgnbmdaaGreat
namespace V
set_option maxRecDepth 100000
open Go.RowKit
theorem infoP_parts : ∃ i, Tryz.prog.info? 71 = some i ∧ i.zero = some (.agg #[.int .i64 0, .int .i64 0, .int .i64 0, .int .i64 0]) ∧ i.size = 4 ∧ i.bytes = 32 := by
  obtain ⟨i, hi, hzz⟩ := Option.map_eq_some_iff.1 infoP
  simp only [Prod.mk.injEq] at hzz
  exact ⟨i, hi, hzz⟩
theorem pls_cells {w : World} {b off m : Nat} {k : List M.Pc} (h : Pls w (some ⟨b, off, none⟩) m k) : ∀ j u, (pcells k)[j]? = some u → w.cell? ((⟨b, off, none⟩ : Addr).add j) = some u := fun j u hj => by
  have hlt : j < k.length * 4 := by
    apply Classical.byContradiction
    intro q
    rw [List.getElem?_eq_none (by rw [pcells_len]; omega)] at hj; cases hj
  rw [pcells_get k hlt] at hj
  injection hj with hj
  subst hj
  have hm := h.1
  obtain ⟨b', o', p0, p1, p2, p3, e, -, hp, c0, c1, c2, c3⟩ := h.at (j / 4) (by omega)
  injection e with e
  injection e with e1 e2
  subst e1 e2
  have ad : (⟨b, off, none⟩ : Addr).add j = ⟨b, off + j, none⟩ := by unfold Addr.add; split <;> simp_all
  rw [ad, hp]
  have h4 : j % 4 = 0 ∨ j % 4 = 1 ∨ j % 4 = 2 ∨ j % 4 = 3 := by omega
  rcases h4 with q | q | q | q
  · rw [q, show off + j = off + j / 4 * 4 by omega]; exact c0
  · rw [q, show off + j = off + j / 4 * 4 + 1 by omega]; exact c1
  · rw [q, show off + j = off + j / 4 * 4 + 2 by omega]; exact c2
  · rw [q, show off + j = off + j / 4 * 4 + 3 by omega]; exact c3
theorem pcells_one_cell {k : List M.Pc} : ∀ u ∈ pcells k, u.oneCell' = true := fun u hu => by
  unfold pcells at hu
  obtain ⟨q, -, rfl⟩ := List.mem_map.1 hu
  rfl
/-- What an append of places leaves. -/
def AppP (w : World) (B : Nat) (v : Value) (l : List M.Pc) (n : Nat) (v' : Value) (w' : World) : Prop :=
  ∃ g c, v' = .slice (some ⟨g, 0, none⟩) n c ∧ OwnPl w' B (.slice (some ⟨g, 0, none⟩) n c) l ∧ Below B w w' ∧ (∀ q, q < w.heap.size → v.ownBlock ≠ some q → w'.heap[q]? = w.heap[q]?) ∧ ((Value.slice (some ⟨g, 0, none⟩) n c).ownBlock = v.ownBlock ∨ w.heap.size ≤ g)
theorem appP_of {w w' : World} {B : Nat} {v v' : Value} {l k : List M.Pc} {n m : Nat} (hn : l.length = n) (hm : k.length = m) (hown : OwnPl w B v l) (hv : v ≠ .slice none 0 0) (hB : B ≤ w.heap.size) (h2 : w'.ownsRow B 71 4 v' (l.length + m) (pcells l ++ pcells k)) (h3 : w.grownBy w' v.ownBlock) (h4 : v' = .slice none 0 0 ↔ v = .slice none 0 0 ∧ m = 0) (h5 : v'.ownBlock = v.ownBlock ∨ v'.ownBlock = some w.heap.size) : AppP w B v (l ++ k) (n + m) v' w' := by
  subst hn hm
  have ho : OwnPl w' B v' (l ++ k) := by
    show w'.ownsRow B _ 4 v' (l ++ k).length (pcells (l ++ k))
    rw [pcells_app, List.length_append]
    exact h2
  have hb : Below B w w' := (Below.refl B w).grown h3 hB (fun q hq => (hown.lt hq).1)
  have hfr : ∀ q, q < w.heap.size → v.ownBlock ≠ some q → w'.heap[q]? = w.heap[q]? := fun q hq hne => by
    obtain ⟨g1, g2, g3, g4, g5⟩ := h3
    exact g5 q hq (fun e => hne e.symm)
  have ho' := ho
  obtain ⟨-, h⟩ := ho
  rcases h with ⟨h, -⟩ | ⟨g, cap, cur, h, hr⟩
  · exact absurd (h4.1 h).1 hv
  · rw [List.length_append] at h
    subst h
    refine ⟨g, cap, rfl, by simpa using ho', hb, hfr, ?_⟩
    rcases h5 with e | e
    · exact .inl e
    · simp [Value.ownBlock] at e
      exact .inr (by omega)
theorem appendPl (w : World) {ops : Array Oper} {rest : List Oper} {o : Oper} {a : Act} {Q : Exit → Act → World → Prop} (hgd : o.guard = none) (s x : Operand)
    (ho : o.op = .call { callee := .builtin .append, args := #[s, x], argTypes := #[24, 24] }) (B : Nat) (v : Value) (l k : List M.Pc) (n m b off c : Nat) (hn : l.length = n) (hs : a.eval s = v) (hown : OwnPl w B v l) (hv : v ≠ .slice none 0 0)
    (hx : a.eval x = .slice (some ⟨b, off, none⟩) m c) (hk : Pls w (some ⟨b, off, none⟩) m k) (hlen : n + m ≤ 2000000) (hB : B ≤ w.heap.size)
    (h : ∀ v' w', AppP w B v (l ++ k) (n + m) v' w' → wpList Tryz.prog ops Q rest (a.put o.dst v') w') :
    wpList Tryz.prog ops Q (o :: rest) a w := by
  obtain ⟨i0, hi, hz0, hz1, hz2⟩ := infoP_parts
  refine wpList_append_own_at (w := w) hgd s x 24 ho B 71 i0 _ 4 32 Tryz.underlying24 hi hz0 hz1 hz2 rfl (by decide) v _ _ hs hown ⟨b, off, none⟩ m c (pcells k) hx (by rw [pcells_len, hk.1]) (pls_cells hk) pcells_one_cell (by unfold maxLen; omega) (by omega) hB ?_
  intro v' w' h2 h3 h4 h5
  exact h v' w' (appP_of hn hk.1 hown hv hB h2 h3 h4 h5)
theorem step_appendPl (w : World) {ops : Array Oper} {o : Oper} {a : Act} {K : Act → World → Prop} {Q : Exit → Act → World → Prop} {E : Prop} (hgd : o.guard = none) (s x : Operand)
    (ho : o.op = .call { callee := .builtin .append, args := #[s, x], argTypes := #[24, 24] }) (B : Nat) (v : Value) (l k : List M.Pc) (n m b off c : Nat) (hn : l.length = n) (hs : a.eval s = v) (hown : OwnPl w B v l) (hv : v ≠ .slice none 0 0)
    (hx : a.eval x = .slice (some ⟨b, off, none⟩) m c) (hk : Pls w (some ⟨b, off, none⟩) m k) (hlen : n + m ≤ 2000000) (hB : B ≤ w.heap.size)
    (h : ∀ v' w', AppP w B v (l ++ k) (n + m) v' w' → K (a.put o.dst v') w') :
    if Region.wanted o (yielded ops a.tmps) = true then Oper.wp Tryz.prog o a w K Q else E := by
  have hw : Region.wanted o (yielded ops a.tmps) = true := by simp [Region.wanted, hgd]
  rw [if_pos hw]
  obtain ⟨i0, hi, hz0, hz1, hz2⟩ := infoP_parts
  obtain ⟨v', w', hr, h2, h3, h4, h5⟩ := run_append_own_at (P := Tryz.prog) w B 24 o.type 71 i0 _ 4 32 Tryz.underlying24 hi hz0 hz1 hz2 rfl (by decide) v _ _ hown ⟨b, off, none⟩ m c (pcells k) (by rw [pcells_len, hk.1]) (pls_cells hk) pcells_one_cell (by unfold maxLen; omega) (by omega) hB
  unfold Oper.wp execOp
  simp only [ho, resolve, invoke, builtin, Sem.run_bind, Sem.run_pure, Result.andThen_ok, List.map_toArray, List.map_cons, List.map_nil, hs, hx, hr]
  exact h v' w' (appP_of hn hk.1 hown hv hB h2 h3 h4 h5)
theorem ownPl_lit0 (w : World) (B : Nat) (hB : B ≤ w.heap.size) : OwnPl (w.alloc (.cells #[] 71)) B (.slice (some ⟨w.heap.size, 0, none⟩) 0 0) [] :=
  World.ownsRow_lit w #[] 0 hB (by decide) rfl
end V
end Go.Proofs.YtlofnadpgnbmdaaGreat

namespace Go.Proofs.YtlofnadpgnbmdaaGreat
namespace M
def ixCode (e : Int) (l : List Pc) (i : Int) : Int := if isGr e l then (if inB i 0 ((l.length : Int) - 1) then 0 else 2) else 1
def chgP (p : Pc) (d t : Int) : Pc := (p.1, p.2.1, d, t)
def chgRes (e : Int) (l : List Pc) (i d t : Int) : Int × List Pc × Int := if isGr e l then (if inB i 0 ((l.length : Int) - 1) && (inB d 0 1000 && inB t 0 5) then (e, l.set i.toNat (chgP (l.getD i.toNat pz) d t), 0) else (0, [], 2)) else (0, [], 1)
theorem chg_stF {l : List Pc} {i : Nat} (hi : i < l.length) (d t : Int) : stF (stF l i 2 d) i 3 t = l.set i (chgP (l.getD i pz) d t) := by
  simp [stF, List.getD_eq_getElem?_getD, hi, setP, chgP]
theorem chgRes_len (e : Int) (l : List Pc) (i d t : Int) : (chgRes e l i d t).2.1.length ≤ 30 := by
  unfold chgRes
  cases h : isGr e l with
  | false => simp
  | true =>
    have := (isGr_in h).2
    cases h2 : (inB i 0 ((l.length : Int) - 1) && (inB d 0 1000 && inB t 0 5)) with
    | false => simp
    | true => simp; omega
end M
namespace V
set_option maxRecDepth 100000
open Go.RowKit
/-- A graph and a code. -/
def GRes (r : Int × List M.Pc × Int) (w : World) (e : Ending) (w' : World) : Prop :=
  ∃ a n c, e = .returned (.tuple #[.agg #[.int .i64 r.1, .slice a n c], .int .i64 r.2.2]) ∧ OwnPl w' w.heap.size (.slice a n c) r.2.1 ∧ Below w.heap.size w w'
theorem GRes.nil {r : Int × List M.Pc × Int} {c : Int} {w w' : World} (hr : r = (0, [], c)) (hb : Below w.heap.size w w') : GRes r w (.returned (.tuple #[.agg #[.int .i64 0, .slice none 0 0], .int .i64 c])) w' := by
  subst hr
  exact ⟨none, 0, 0, rfl, ownPl_nil _ _, hb⟩
/-- The cell of the result, before it is written. -/
def ResG (w : World) (R : Nat) : Prop := w.cell? ⟨R, 0, none⟩ = some (.int .i64 0) ∧ w.cell? ⟨R, 1, none⟩ = some (.slice none 0 0) ∧ w.frozen? ⟨R, 0, none⟩ = false ∧ w.frozen? ⟨R, 1, none⟩ = false
theorem ResG.below {w w' : World} {R : Nat} (h : ResG w R) (hb : Below w.heap.size w w') : ResG w' R := by
  obtain ⟨h1, h2, h3, h4⟩ := h
  have hl : R < w.heap.size := cell_lt h1
  exact ⟨(hb.cell (p := ⟨R, 0, none⟩) hl).trans h1, (hb.cell (p := ⟨R, 1, none⟩) hl).trans h2, (hb.frozen (p := ⟨R, 0, none⟩) hl).trans h3, (hb.frozen (p := ⟨R, 1, none⟩) hl).trans h4⟩
theorem resG_new (w : World) (t : TypeId) : ResG (w.alloc (.cells #[.int .i64 0, .slice none 0 0] t)) w.heap.size := ⟨by simp [go_sem], by simp [go_sem], by simp [go_sem], by simp [go_sem]⟩
set_option maxRecDepth 100000 in
set_option maxHeartbeats 400000 in
theorem hasIndex (x : Int) (a : Option Addr) (n cap : Nat) (i : Int) (w : World) (hn : n ≤ 1048576) : Calls Tryz.prog 135 #[.agg #[.int .i64 x, .slice a n cap], .int .i64 i] w fun e w' => e = .returned (.bool (M.inB i 0 ((n : Int) - 1))) ∧ Below w.heap.size w w' := by
  go_enter Tryz.func135, Tryz.ntmps135
  go_wp2_with (go_at_call 53; refine (isUpTo i ((n : Int) - 1) _).mono ?_; rintro e w' ⟨rfl, rfl⟩)
  go_ret
  exact ⟨rfl, b_alloc _ _⟩
end V
end Go.Proofs.YtlofnadpgnbmdaaGreat
