/- Texts laid together: Grg, Grh, Gri. -/
import Derived.Test.YtkjcnlihmhcakaaQb5
import Derived.Deep.RegionLaw
import Derived.Lib.SliceRun
set_option linter.unusedSimpArgs false
set_option linter.unusedVariables false
set_option linter.unusedSectionVars false
namespace Go.Proofs.Ytkjcnlihmhcakaa
namespace V
set_option maxRecDepth 100000
open Go.RowKit
theorem infoP_parts : ∃ i, Try.prog.info? 39 = some i ∧ i.zero = some (.agg #[.int .i64 0, .int .i64 0, .int .i64 0, .int .i64 0]) ∧ i.size = 4 ∧ i.bytes = 32 := by
  obtain ⟨i, hi, hzz⟩ := Option.map_eq_some_iff.1 infoP
  simp only [Prod.mk.injEq] at hzz
  exact ⟨i, hi, hzz⟩
theorem pls_cells {w : World} {b off m : Nat} {k : List M.Pc} (h : Pls w (some ⟨b, off, none⟩) m k) : ∀ j u, (pcells k)[j]? = some u → w.cell? ((⟨b, off, none⟩ : Addr).add j) = some u := fun j u hj => by
  have hlt : j < k.length * 4 := by
    apply Classical.byContradiction
    intro q
    rw [List.getElem?_eq_none (by rw [pcells_len]; omega)] at hj; cases hj
  rw [pcells_get k hlt] at hj
  injection hj with hj
  subst hj
  have hm := h.1
  obtain ⟨b', o', p0, p1, p2, p3, e, -, hp, c0, c1, c2, c3⟩ := h.at (j / 4) (by omega)
  injection e with e
  injection e with e1 e2
  subst e1 e2
  have ad : (⟨b, off, none⟩ : Addr).add j = ⟨b, off + j, none⟩ := by unfold Addr.add; split <;> simp_all
  rw [ad, hp]
  have h4 : j % 4 = 0 ∨ j % 4 = 1 ∨ j % 4 = 2 ∨ j % 4 = 3 := by omega
  rcases h4 with q | q | q | q
  · rw [q, show off + j = off + j / 4 * 4 by omega]; exact c0
  · rw [q, show off + j = off + j / 4 * 4 + 1 by omega]; exact c1
  · rw [q, show off + j = off + j / 4 * 4 + 2 by omega]; exact c2
  · rw [q, show off + j = off + j / 4 * 4 + 3 by omega]; exact c3
theorem pcells_one_cell {k : List M.Pc} : ∀ u ∈ pcells k, u.oneCell' = true := fun u hu => by
  unfold pcells at hu
  obtain ⟨q, -, rfl⟩ := List.mem_map.1 hu
  rfl
/-- What an append of places leaves. -/
def AppP (w : World) (B : Nat) (v : Value) (l : List M.Pc) (n : Nat) (v' : Value) (w' : World) : Prop :=
  ∃ g c, v' = .slice (some ⟨g, 0, none⟩) n c ∧ OwnPl w' B (.slice (some ⟨g, 0, none⟩) n c) l ∧ Below B w w' ∧ (∀ q, q < w.heap.size → v.ownBlock ≠ some q → w'.heap[q]? = w.heap[q]?) ∧ ((Value.slice (some ⟨g, 0, none⟩) n c).ownBlock = v.ownBlock ∨ w.heap.size ≤ g)
theorem appP_of {w w' : World} {B : Nat} {v v' : Value} {l k : List M.Pc} {n m : Nat} (hn : l.length = n) (hm : k.length = m) (hown : OwnPl w B v l) (hv : v ≠ .slice none 0 0) (hB : B ≤ w.heap.size) (h2 : w'.ownsRow B 39 4 v' (l.length + m) (pcells l ++ pcells k)) (h3 : w.grownBy w' v.ownBlock) (h4 : v' = .slice none 0 0 ↔ v = .slice none 0 0 ∧ m = 0) (h5 : v'.ownBlock = v.ownBlock ∨ v'.ownBlock = some w.heap.size) : AppP w B v (l ++ k) (n + m) v' w' := by
  subst hn hm
  have ho : OwnPl w' B v' (l ++ k) := by
    show w'.ownsRow B _ 4 v' (l ++ k).length (pcells (l ++ k))
    rw [pcells_app, List.length_append]
    exact h2
  have hb : Below B w w' := (Below.refl B w).grown h3 hB (fun q hq => (hown.lt hq).1)
  have hfr : ∀ q, q < w.heap.size → v.ownBlock ≠ some q → w'.heap[q]? = w.heap[q]? := fun q hq hne => by
    obtain ⟨g1, g2, g3, g4, g5⟩ := h3
    exact g5 q hq (fun e => hne e.symm)
  have ho' := ho
  obtain ⟨-, h⟩ := ho
  rcases h with ⟨h, -⟩ | ⟨g, cap, cur, h, hr⟩
  · exact absurd (h4.1 h).1 hv
  · rw [List.length_append] at h
    subst h
    refine ⟨g, cap, rfl, by simpa using ho', hb, hfr, ?_⟩
    rcases h5 with e | e
    · exact .inl e
    · simp [Value.ownBlock] at e
      exact .inr (by omega)
theorem appendPl (w : World) {ops : Array Oper} {rest : List Oper} {o : Oper} {a : Act} {Q : Exit → Act → World → Prop} (hgd : o.guard = none) (s x : Operand)
    (ho : o.op = .call { callee := .builtin .append, args := #[s, x], argTypes := #[24, 24] }) (B : Nat) (v : Value) (l k : List M.Pc) (n m b off c : Nat) (hn : l.length = n) (hs : a.eval s = v) (hown : OwnPl w B v l) (hv : v ≠ .slice none 0 0)
    (hx : a.eval x = .slice (some ⟨b, off, none⟩) m c) (hk : Pls w (some ⟨b, off, none⟩) m k) (hlen : n + m ≤ 2000000) (hB : B ≤ w.heap.size)
    (h : ∀ v' w', AppP w B v (l ++ k) (n + m) v' w' → wpList Try.prog ops Q rest (a.put o.dst v') w') :
    wpList Try.prog ops Q (o :: rest) a w := by
  obtain ⟨i0, hi, hz0, hz1, hz2⟩ := infoP_parts
  refine wpList_append_own_at (w := w) hgd s x 24 ho B 39 i0 _ 4 32 Try.underlying24 hi hz0 hz1 hz2 rfl (by decide) v _ _ hs hown ⟨b, off, none⟩ m c (pcells k) hx (by rw [pcells_len, hk.1]) (pls_cells hk) pcells_one_cell (by unfold maxLen; omega) (by omega) hB ?_
  intro v' w' h2 h3 h4 h5
  exact h v' w' (appP_of hn hk.1 hown hv hB h2 h3 h4 h5)
theorem step_appendPl (w : World) {ops : Array Oper} {o : Oper} {a : Act} {K : Act → World → Prop} {Q : Exit → Act → World → Prop} {E : Prop} (hgd : o.guard = none) (s x : Operand)
    (ho : o.op = .call { callee := .builtin .append, args := #[s, x], argTypes := #[24, 24] }) (B : Nat) (v : Value) (l k : List M.Pc) (n m b off c : Nat) (hn : l.length = n) (hs : a.eval s = v) (hown : OwnPl w B v l) (hv : v ≠ .slice none 0 0)
    (hx : a.eval x = .slice (some ⟨b, off, none⟩) m c) (hk : Pls w (some ⟨b, off, none⟩) m k) (hlen : n + m ≤ 2000000) (hB : B ≤ w.heap.size)
    (h : ∀ v' w', AppP w B v (l ++ k) (n + m) v' w' → K (a.put o.dst v') w') :
    if Region.wanted o (yielded ops a.tmps) = true then Oper.wp Try.prog o a w K Q else E := by
  have hw : Region.wanted o (yielded ops a.tmps) = true := by simp [Region.wanted, hgd]
  rw [if_pos hw]
  obtain ⟨i0, hi, hz0, hz1, hz2⟩ := infoP_parts
  obtain ⟨v', w', hr, h2, h3, h4, h5⟩ := run_append_own_at (P := Try.prog) w B 24 o.type 39 i0 _ 4 32 Try.underlying24 hi hz0 hz1 hz2 rfl (by decide) v _ _ hown ⟨b, off, none⟩ m c (pcells k) (by rw [pcells_len, hk.1]) (pls_cells hk) pcells_one_cell (by unfold maxLen; omega) (by omega) hB
  unfold Oper.wp execOp
  simp only [ho, resolve, invoke, builtin, Sem.run_bind, Sem.run_pure, Result.andThen_ok, List.map_toArray, List.map_cons, List.map_nil, hs, hx, hr]
  exact h v' w' (appP_of hn hk.1 hown hv hB h2 h3 h4 h5)
theorem ownPl_lit0 (w : World) (B : Nat) (hB : B ≤ w.heap.size) : OwnPl (w.alloc (.cells #[] 39)) B (.slice (some ⟨w.heap.size, 0, none⟩) 0 0) [] :=
  World.ownsRow_lit w #[] 0 hB (by decide) rfl
set_option maxRecDepth 100000 in
set_option maxHeartbeats 1000000 in
theorem clonePl (b off n cap : Nat) (l : List M.Pc) (w : World) (h : Pls w (some ⟨b, off, none⟩) n l) (hn : n ≤ 1048576) :
    Calls Try.prog 52 #[.slice (some ⟨b, off, none⟩) n cap] w fun e w' => ∃ g c, e = .returned (.slice (some ⟨g, 0, none⟩) n c) ∧ OwnPl w' w.heap.size (.slice (some ⟨g, 0, none⟩) n c) l ∧ Below w.heap.size w w' := by
  have HI := Lib.hid h
  have hnil := fun w : World => Lib.run_eql_slice_nil (P := Try.prog) w 24 39 (some (⟨b, off, none⟩ : Addr)) n cap 0 0 Try.underlying24
  clear h
  go_enter Try.func52, Try.ntmps52
  go_wp2_with (at_builtin; refine appendPl _ rfl (.tmp 5) (.tmp 6) rfl w.heap.size (.slice (some ⟨w.heap.size, 0, none⟩) 0 0) [] l 0 n b off cap rfl rfl (ownPl_lit0 w _ (Nat.le_refl _)) (by simp) rfl (HI.out.below (b_alloc w _)) (by omega) (by simp) ?_)
  rintro v' w' ⟨g, c, rfl, ho, hb, -, -⟩
  have HO := Lib.hid ho
  have HB := Lib.hid ((b_alloc w (.cells #[] 39)).trans hb)
  clear ho hb
  go_wp2
  go_ret
  exact ⟨_, _, rfl, HO.out, HB.out⟩
set_option maxRecDepth 100000 in
set_option maxHeartbeats 2000000 in
theorem sOwn (x : Int) (b off n cap : Nat) (l : List M.Pc) (w : World) (h : Pls w (some ⟨b, off, none⟩) n l) (hn : n ≤ 1048576) :
    Calls Try.prog 57 #[.agg #[.int .i64 x, .slice (some ⟨b, off, none⟩) n cap]] w fun e w' => ∃ g c, e = .returned (.agg #[.int .i64 x, .slice (some ⟨g, 0, none⟩) n c]) ∧ OwnPl w' w.heap.size (.slice (some ⟨g, 0, none⟩) n c) l ∧ Below w.heap.size w w' := by
  have HI := Lib.hid h
  have HO : Hid (OwnPl (((w.alloc (.cells #[.int .i64 x, .slice (some ⟨b, off, none⟩) n cap] 26)).alloc (.cells #[.int .i64 0, .slice none 0 0] 26)).alloc (.cells #[] 39)).drew w.heap.size (.slice (some ⟨w.heap.size + 1 + 1, 0, none⟩) 0 0) []) := by
    have := ownPl_lit0 ((w.alloc (.cells #[.int .i64 x, .slice (some ⟨b, off, none⟩) n cap] 26)).alloc (.cells #[.int .i64 0, .slice none 0 0] 26)) w.heap.size (by simp; omega)
    simp only [World.size_alloc] at this
    exact this
  have HB3 : Hid (Below w.heap.size w (((w.alloc (.cells #[.int .i64 x, .slice (some ⟨b, off, none⟩) n cap] 26)).alloc (.cells #[.int .i64 0, .slice none 0 0] 26)).alloc (.cells #[] 39)).drew) := (b_al3g w _ _ _).drew
  clear h
  go_enter Try.func57, Try.ntmps57
  go_wp2
  go_region_law (refine step_appendPl _ rfl (.tmp 5) (.tmp 7) rfl w.heap.size (.slice (some ⟨w.heap.size + 1 + 1, 0, none⟩) 0 0) [] l 0 n b off cap rfl rfl HO.out (by simp) rfl (HI.out.below HB3.out) (by omega) (HB3.out.size) ?_; intro v' w2 hA; obtain ⟨g, c, hv, ho, hb, hfr, hat⟩ := hA; subst hv; have e0 := hfr w.heap.size (by first | (simp; done) | (simp; omega)) (by first | (simp [Value.ownBlock]; done) | (simp [Value.ownBlock]; omega)); have e1 := hfr (w.heap.size + 1) (by first | (simp; done) | (simp; omega)) (by first | (simp [Value.ownBlock]; done) | (simp [Value.ownBlock]; omega)); have c0 : w2.cell? ⟨w.heap.size, 0, none⟩ = some (.int .i64 x) := (World.cell?_of_block (a := ⟨w.heap.size, 0, none⟩) e0).trans (by simp [go_sem]); have r0 : w2.cell? ⟨w.heap.size + 1, 0, none⟩ = some (.int .i64 0) := (World.cell?_of_block (a := ⟨w.heap.size + 1, 0, none⟩) e1).trans (by simp [go_sem]); have r1 : w2.cell? ⟨w.heap.size + 1, 1, none⟩ = some (.slice none 0 0) := (World.cell?_of_block (a := ⟨w.heap.size + 1, 1, none⟩) e1).trans (by simp [go_sem]); have f0 : w2.frozen? ⟨w.heap.size + 1, 0, none⟩ = false := (World.frozen?_of_block (a := ⟨w.heap.size + 1, 0, none⟩) e1).trans (by simp [go_sem]); have f1 : w2.frozen? ⟨w.heap.size + 1, 1, none⟩ = false := (World.frozen?_of_block (a := ⟨w.heap.size + 1, 1, none⟩) e1).trans (by simp [go_sem]))
  all_goals
    have hgn : w.heap.size + 1 + 1 ≤ g := by
      rcases hat with e | e
      · simp [Value.ownBlock] at e; omega
      · simp at e; omega
    have HOw : Hid (OwnPl ((w2.setCell ⟨w.heap.size + 1, 0, none⟩ (.int .i64 x)).setCell ⟨w.heap.size + 1, 1, none⟩ (.slice (some ⟨g, 0, none⟩) n c)) w.heap.size (.slice (some ⟨g, 0, none⟩) n c) l) := by
      have ho' : OwnPl w2 w.heap.size (.slice (some ⟨g, 0, none⟩) n c) l := by simpa using ho
      refine ho'.keepB fun k hk => ?_
      simp [Value.ownBlock] at hk
      subst hk
      rw [Below.heap_setCell _ _ _ _ (by show g ≠ w.heap.size + 1; omega), Below.heap_setCell _ _ _ _ (by show g ≠ w.heap.size + 1; omega)]
    have HBa := Lib.hid (HB3.out.trans hb)
    have hsz2 := HBa.out.size
    have z1 : w.heap.size + 1 < w2.heap.size := cell_lt r0
    go_wp2
    exact bodyPost_ret (v := .agg #[.int .i64 x, .slice (some ⟨g, 0, none⟩) n c]) (by simp [results, Try.results57, go_sem, z1, r0, r1]) rfl ⟨g, c, rfl, HOw.out, (HBa.out.setCell (by show _ ≤ w.heap.size + 1; omega) _).setCell (by show _ ≤ w.heap.size + 1; omega) _⟩
end V
end Go.Proofs.Ytkjcnlihmhcakaa

namespace Go.Proofs.Ytkjcnlihmhcakaa
namespace M
def ixCode (e : Int) (l : List Pc) (i : Int) : Int := if isGr e l then (if inB i 0 ((l.length : Int) - 1) then 0 else 2) else 1
def chgP (p : Pc) (d t : Int) : Pc := (p.1, p.2.1, d, t)
def chgRes (e : Int) (l : List Pc) (i d t : Int) : Int × List Pc × Int := if isGr e l then (if inB i 0 ((l.length : Int) - 1) && (inB d 0 1000 && inB t 0 5) then (e, l.set i.toNat (chgP (l.getD i.toNat pz) d t), 0) else (0, [], 2)) else (0, [], 1)
theorem chg_stF {l : List Pc} {i : Nat} (hi : i < l.length) (d t : Int) : stF (stF l i 2 d) i 3 t = l.set i (chgP (l.getD i pz) d t) := by
  simp [stF, List.getD_eq_getElem?_getD, hi, setP, chgP]
theorem chgRes_len (e : Int) (l : List Pc) (i d t : Int) : (chgRes e l i d t).2.1.length ≤ 30 := by
  unfold chgRes
  cases h : isGr e l with
  | false => simp
  | true =>
    have := (isGr_in h).2
    cases h2 : (inB i 0 ((l.length : Int) - 1) && (inB d 0 1000 && inB t 0 5)) with
    | false => simp
    | true => simp; omega
end M
namespace V
set_option maxRecDepth 100000
open Go.RowKit
/-- A graph and a code. -/
def GRes (r : Int × List M.Pc × Int) (w : World) (e : Ending) (w' : World) : Prop :=
  ∃ a n c, e = .returned (.tuple #[.agg #[.int .i64 r.1, .slice a n c], .int .i64 r.2.2]) ∧ OwnPl w' w.heap.size (.slice a n c) r.2.1 ∧ Below w.heap.size w w'
theorem GRes.nil {r : Int × List M.Pc × Int} {c : Int} {w w' : World} (hr : r = (0, [], c)) (hb : Below w.heap.size w w') : GRes r w (.returned (.tuple #[.agg #[.int .i64 0, .slice none 0 0], .int .i64 c])) w' := by
  subst hr
  exact ⟨none, 0, 0, rfl, ownPl_nil _ _, hb⟩
/-- The cell of the result, before it is written. -/
def ResG (w : World) (R : Nat) : Prop := w.cell? ⟨R, 0, none⟩ = some (.int .i64 0) ∧ w.cell? ⟨R, 1, none⟩ = some (.slice none 0 0) ∧ w.frozen? ⟨R, 0, none⟩ = false ∧ w.frozen? ⟨R, 1, none⟩ = false
theorem ResG.below {w w' : World} {R : Nat} (h : ResG w R) (hb : Below w.heap.size w w') : ResG w' R := by
  obtain ⟨h1, h2, h3, h4⟩ := h
  have hl : R < w.heap.size := cell_lt h1
  exact ⟨(hb.cell (p := ⟨R, 0, none⟩) hl).trans h1, (hb.cell (p := ⟨R, 1, none⟩) hl).trans h2, (hb.frozen (p := ⟨R, 0, none⟩) hl).trans h3, (hb.frozen (p := ⟨R, 1, none⟩) hl).trans h4⟩
theorem resG_new (w : World) (t : TypeId) : ResG (w.alloc (.cells #[.int .i64 0, .slice none 0 0] t)) w.heap.size := ⟨by simp [go_sem], by simp [go_sem], by simp [go_sem], by simp [go_sem]⟩
set_option maxRecDepth 100000 in
set_option maxHeartbeats 1000000 in
theorem sIndex (x : Int) (a : Option Addr) (n cap : Nat) (l : List M.Pc) (i : Int) (w : World) (h : Pls w a n l) :
    Calls Try.prog 55 #[.agg #[.int .i64 x, .slice a n cap], .int .i64 i] w fun e w' => e = .returned (.int .i64 (M.ixCode x l i)) ∧ Below w.heap.size w w' := by
  have hb0 := b_alloc w (.cells #[.int .i64 x, .slice a n cap] 26)
  have hm := h.2.1
  unfold maxLen at hm
  have hl : l.length = n := h.1
  obtain ⟨r, hr⟩ : ∃ r, r = M.isGr x l := ⟨_, rfl⟩
  have HS : Hid (Calls Try.prog 26 #[.agg #[.int .i64 x, .slice a n cap]] (w.alloc (.cells #[.int .i64 x, .slice a n cap] 26)) fun e w' => e = .returned (.bool r) ∧ Below (w.alloc (.cells #[.int .i64 x, .slice a n cap] 26)).heap.size (w.alloc (.cells #[.int .i64 x, .slice a n cap] 26)) w') := by
    rw [hr]; exact sIsEventGraph x a n cap l _ (h.below hb0)
  have HCd : Hid (∀ b, M.inB i 0 ((n : Int) - 1) = b → M.ixCode x l i = if r then (if b then 0 else 2) else 1) := fun b q => by unfold M.ixCode; rw [hl, q, ← hr]
  have hG := gBox_new w x a n cap 26
  obtain ⟨wb, hwb⟩ : ∃ z, z = w.alloc (.cells #[.int .i64 x, .slice a n cap] 26) := ⟨_, rfl⟩
  rw [← hwb] at HS hb0 hG
  have HG := Lib.hid hG
  have HB0 := Lib.hid hb0
  clear hr h hG hb0 hl
  go_enter Try.func55, Try.ntmps55
  go_wp2_with fail
  rw [← hwb]
  clear hwb
  refine (HS.out).mono ?_
  rintro e w1 ⟨rfl, hb1⟩
  have HB1 := Lib.hid (HB0.out.trans (hb1.mono HB0.out.size))
  obtain ⟨g0, g1⟩ := HG.out.below hb1
  clear hb1
  cases r with
  | false =>
    have HE := Lib.hid (HCd.out _ rfl)
    go_wp2
    go_ret
    exact ⟨by rw [HE.out]; rfl, HB1.out⟩
  | true =>
    cases h0 : (decide (0 ≤ i) && decide (i ≤ (n : Int) - 1)) with
    | false =>
      have HE := Lib.hid (HCd.out false h0)
      go_wp2_with (go_at_call 56; refine (sIn _ _ _ _).mono ?_; rintro e w' ⟨rfl, rfl⟩)
      go_ret
      exact ⟨by rw [HE.out]; rfl, HB1.out⟩
    | true =>
      have HE := Lib.hid (HCd.out true h0)
      go_wp2_with (go_at_call 56; refine (sIn _ _ _ _).mono ?_; rintro e w' ⟨rfl, rfl⟩)
      go_ret
      exact ⟨by rw [HE.out]; rfl, HB1.out⟩
set_option maxRecDepth 100000 in
set_option maxHeartbeats 400000 in
theorem hasIndex (x : Int) (a : Option Addr) (n cap : Nat) (i : Int) (w : World) (hn : n ≤ 1048576) : Calls Try.prog 50 #[.agg #[.int .i64 x, .slice a n cap], .int .i64 i] w fun e w' => e = .returned (.bool (M.inB i 0 ((n : Int) - 1))) ∧ Below w.heap.size w w' := by
  go_enter Try.func50, Try.ntmps50
  go_wp2_with (go_at_call 51; refine (isUpTo i ((n : Int) - 1) _).mono ?_; rintro e w' ⟨rfl, rfl⟩)
  go_ret
  exact ⟨rfl, b_alloc _ _⟩
set_option maxRecDepth 100000 in
set_option maxHeartbeats 400000 in
theorem withPl (x : Int) (a : Option Addr) (n cap : Nat) (a' : Option Addr) (n' cap' : Nat) (w : World) : Calls Try.prog 54 #[.agg #[.int .i64 x, .slice a n cap], .slice a' n' cap'] w fun e w' => e = .returned (.agg #[.int .i64 x, .slice a' n' cap']) ∧ Below w.heap.size w w' := by
  go_enter Try.func54, Try.ntmps54
  go_wp2
  exact bodyPost_ret (v := .agg #[.int .i64 x, .slice a' n' cap']) (by simp [results, Try.results54, go_sem]) rfl ⟨rfl, b_alloc2 _ _ _⟩
set_option maxRecDepth 100000 in
set_option maxHeartbeats 400000 in
theorem change (g o : Nat) (d t : Int) (w : World) (h2 : ∃ v, w.cell? ⟨g, o + 2, none⟩ = some v) (h3 : ∃ v, w.cell? ⟨g, o + 3, none⟩ = some v) (f2 : w.frozen? ⟨g, o + 2, none⟩ = false) (f3 : w.frozen? ⟨g, o + 3, none⟩ = false) :
    Calls Try.prog 53 #[.pointer (some ⟨g, o, none⟩), .int .i64 d, .int .i64 t] w fun e w' => e = .returned (.tuple #[]) ∧ w' = (w.setCell ⟨g, o + 2, none⟩ (.int .i64 d)).setCell ⟨g, o + 3, none⟩ (.int .i64 t) := by
  obtain ⟨v2, c2⟩ := h2
  obtain ⟨v3, c3⟩ := h3
  go_enter Try.func53, Try.ntmps53
  go_wp2
  go_end0
  exact ⟨rfl, rfl⟩
end V
end Go.Proofs.Ytkjcnlihmhcakaa

namespace Go.Proofs.Ytkjcnlihmhcakaa
namespace M
theorem chg_cases (e : Int) (l : List Pc) (i d t : Int) :
    (ixCode e l i = 1 ∧ chgRes e l i d t = (0, [], 1)) ∨ (ixCode e l i = 2 ∧ chgRes e l i d t = (0, [], 2)) ∨
    (∃ k : Nat, i = k ∧ k < l.length ∧ l.length ≤ 30 ∧ ixCode e l i = 0 ∧ (inB d 0 1000 = true → inB t 0 5 = true → chgRes e l i d t = (e, stF (stF l k 2 d) k 3 t, 0)) ∧ (inB d 0 1000 = false → chgRes e l i d t = (0, [], 2)) ∧ (inB t 0 5 = false → chgRes e l i d t = (0, [], 2))) := by
  unfold ixCode chgRes
  cases h : isGr e l with
  | false => exact .inl ⟨rfl, rfl⟩
  | true =>
    refine .inr ?_
    cases h2 : inB i 0 ((l.length : Int) - 1) with
    | false => exact .inl ⟨rfl, rfl⟩
    | true =>
      refine .inr ?_
      have h3 := h2
      unfold inB at h3
      simp at h3
      refine ⟨i.toNat, by omega, by omega, (isGr_in h).2, by simp, fun q1 q2 => ?_, fun q => by simp [q], fun q => by simp [q]⟩
      rw [q1, q2, chg_stF (by omega)]
      simp
theorem chg_cases2 (e : Int) (l : List Pc) (i d t : Int) :
    (isGr e l = false ∧ chgRes e l i d t = (0, [], 1)) ∨ (isGr e l = true ∧ l.length ≤ 30 ∧ inB i 0 ((l.length : Int) - 1) = false ∧ chgRes e l i d t = (0, [], 2)) ∨
    (∃ k : Nat, i = k ∧ k < l.length ∧ l.length ≤ 30 ∧ isGr e l = true ∧ inB i 0 ((l.length : Int) - 1) = true ∧ (inB d 0 1000 = true → inB t 0 5 = true → chgRes e l i d t = (e, stF (stF l k 2 d) k 3 t, 0)) ∧ (inB d 0 1000 = false → chgRes e l i d t = (0, [], 2)) ∧ (inB t 0 5 = false → chgRes e l i d t = (0, [], 2))) := by
  have hc := chg_cases e l i d t
  unfold ixCode at hc
  cases h : isGr e l with
  | false => rw [h] at hc; simp at hc; exact .inl ⟨rfl, hc⟩
  | true =>
    refine .inr ?_
    rw [h] at hc
    cases h2 : inB i 0 ((l.length : Int) - 1) with
    | false => rw [h2] at hc; simp at hc; exact .inl ⟨rfl, (isGr_in h).2, rfl, hc⟩
    | true =>
      refine .inr ?_
      rw [h2] at hc; simp at hc
      obtain ⟨k, q1, q2, q3, q4, q5, q6⟩ := hc
      exact ⟨k, q1, q2, q3, rfl, rfl, q4, q5, q6⟩
end M
namespace V
set_option maxRecDepth 100000
open Go.RowKit
set_option maxRecDepth 100000 in
set_option maxHeartbeats 2000000 in
theorem sChangePlace (x : Int) (a : Option Addr) (n cap : Nat) (l : List M.Pc) (i d t : Int) (w : World) (h : Pls w a n l) :
    Calls Try.prog 19 #[.agg #[.int .i64 x, .slice a n cap], .int .i64 i, .int .i64 d, .int .i64 t] w (GRes (M.chgRes x l i d t) w) := by
  have HI := Lib.hid h
  have hl : l.length = n := h.1
  have hb0 := b_alloc2 w (.cells #[.int .i64 x, .slice a n cap] 26) (.cells #[.int .i64 0, .slice none 0 0] 26)
  have hG : GBox ((w.alloc (.cells #[.int .i64 x, .slice a n cap] 26)).alloc (.cells #[.int .i64 0, .slice none 0 0] 26)) w.heap.size x a n cap := (gBox_new w x a n cap 26).below (b_alloc _ _)
  have hR : ResG ((w.alloc (.cells #[.int .i64 x, .slice a n cap] 26)).alloc (.cells #[.int .i64 0, .slice none 0 0] 26)) (w.heap.size + 1) := by
    have := resG_new (w.alloc (.cells #[.int .i64 x, .slice a n cap] 26)) 26
    rwa [World.size_alloc] at this
  obtain ⟨wb, hwb⟩ : ∃ z, z = (w.alloc (.cells #[.int .i64 x, .slice a n cap] 26)).alloc (.cells #[.int .i64 0, .slice none 0 0] 26) := ⟨_, rfl⟩
  rw [← hwb] at hb0 hG hR
  have HS := Lib.hid (sIndex x a n cap l i wb (h.below hb0))
  have HG := Lib.hid hG
  have HRs := Lib.hid hR
  have HB0 := Lib.hid hb0
  obtain ⟨r, hr⟩ : ∃ r, r = M.chgRes x l i d t := ⟨_, rfl⟩
  have HC := Lib.hid (M.chg_cases x l i d t)
  obtain ⟨cd, hcd⟩ : ∃ c, c = M.ixCode x l i := ⟨_, rfl⟩
  rw [← hr] at HC ⊢
  rw [← hcd] at HC HS
  clear h hG hb0 hR hr hcd
  go_enter Try.func19, Try.ntmps19
  go_wp2_with fail
  rw [← hwb]
  clear hwb
  refine (HS.out).mono ?_
  rintro e w1 ⟨rfl, hb1⟩
  have HB1 := Lib.hid (HB0.out.trans (hb1.mono HB0.out.size))
  have HI1 := Lib.hid (HI.out.below HB1.out)
  obtain ⟨g0, g1⟩ := HG.out.below hb1
  have HR1 := Lib.hid (HRs.out.below hb1)
  obtain ⟨r0, r1, f0, f1⟩ := HR1.out
  have z1 : w.heap.size + 1 < w1.heap.size := cell_lt r0
  clear hb1 HS
  rcases HC.out with ⟨rfl, hr⟩ | ⟨rfl, hr⟩ | ⟨k, rfl, hk, h30, rfl, hr1, hr2, hr3⟩
  · have HR := Lib.hid hr
    clear hr HC
    go_wp2
    exact bodyPost_ret (v := .tuple #[.agg #[.int .i64 0, .slice none 0 0], .int .i64 1]) (by simp [results, Try.results19, go_sem, z1, r0, r1]) rfl (GRes.nil HR.out ((HB1.out.setCell (by show _ ≤ w.heap.size + 1; omega) _).setCell (by show _ ≤ w.heap.size + 1; omega) _))
  · have HR := Lib.hid hr
    clear hr HC
    go_wp2
    exact bodyPost_ret (v := .tuple #[.agg #[.int .i64 0, .slice none 0 0], .int .i64 2]) (by simp [results, Try.results19, go_sem, z1, r0, r1]) rfl (GRes.nil HR.out ((HB1.out.setCell (by show _ ≤ w.heap.size + 1; omega) _).setCell (by show _ ≤ w.heap.size + 1; omega) _))
  · have HX1 := Lib.hid hr1
    have HX2 := Lib.hid hr2
    have HX3 := Lib.hid hr3
    unfold M.inB at HX1 HX2 HX3
    clear hr1 hr2 hr3 HC
    have hki : (k : Int) < (n : Int) := by omega
    cases h0 : (decide (0 ≤ d) && decide (d ≤ 1000)) with
    | false =>
      have HR := Lib.hid (HX2.out h0)
      clear HX1 HX2 HX3
      go_wp2_with (go_at_call 56; refine (sIn _ _ _ _).mono ?_; rintro e w' ⟨rfl, rfl⟩)
      exact bodyPost_ret (v := .tuple #[.agg #[.int .i64 0, .slice none 0 0], .int .i64 2]) (by simp [results, Try.results19, go_sem, z1, r0, r1]) rfl (GRes.nil HR.out ((HB1.out.setCell (by show _ ≤ w.heap.size + 1; omega) _).setCell (by show _ ≤ w.heap.size + 1; omega) _))
    | true =>
      cases h1 : (decide (0 ≤ t) && decide (t ≤ 5)) with
      | false =>
        have HR := Lib.hid (HX3.out h1)
        clear HX1 HX2 HX3
        go_wp2_with (go_at_call 56; refine (sIn _ _ _ _).mono ?_; rintro e w' ⟨rfl, rfl⟩)
        exact bodyPost_ret (v := .tuple #[.agg #[.int .i64 0, .slice none 0 0], .int .i64 2]) (by simp [results, Try.results19, go_sem, z1, r0, r1]) rfl (GRes.nil HR.out ((HB1.out.setCell (by show _ ≤ w.heap.size + 1; omega) _).setCell (by show _ ≤ w.heap.size + 1; omega) _))
      | true =>
        have HR := Lib.hid (HX1.out h0 h1)
        clear HX1 HX2 HX3
        obtain ⟨b, off, -, -, -, -, rfl, -⟩ := HI1.out.at k (by omega)
        go_wp2_with (first | (go_at_call 56; refine (sIn _ _ _ _).mono ?_; rintro e w' ⟨rfl, rfl⟩) | fail)
        refine (sOwn x b off n cap l w1 HI1.out (by omega)).mono ?_
        rintro e w2 ⟨g, c, rfl, ho, hb⟩
        have HO := Lib.hid ho
        obtain ⟨r0', r1', f0', f1'⟩ := HR1.out.below hb
        have HB2 := Lib.hid (HB1.out.trans (hb.mono HB1.out.size))
        have z2 := hb.size
        obtain ⟨g', o', p0, p1, p2, p3, hgg, hglt, -, c0, c1, c2, c3⟩ := ho.pls.at k (by omega)
        injection hgg with hgg
        injection hgg with e1 e2
        subst e1 e2
        simp only [Nat.zero_add] at c0 c1 c2 c3
        have hgB : w1.heap.size ≤ g := (ho.lt rfl).1
        have f2 := ho.frozenAt (k * 4 + 2)
        have f3 := ho.frozenAt (k * 4 + 3)
        have hb3 := b_alloc w2 (.cells #[.int .i64 x, .slice (some ⟨g, 0, none⟩) n c] 26)
        have hgne : g ≠ w2.heap.size := by omega
        have hRne : w.heap.size + 1 ≠ g := by omega
        have hRn2 : w.heap.size + 1 ≠ w2.heap.size := by omega
        have d2 := (hb3.cell (p := ⟨g, k * 4 + 2, none⟩) hglt).trans c2
        have d3 := (hb3.cell (p := ⟨g, k * 4 + 3, none⟩) hglt).trans c3
        have hbs : Below w1.heap.size w1 (((w2.setCell ⟨g, k * 4 + 2, none⟩ (.int .i64 d)).setCell ⟨g, k * 4 + 3, none⟩ (.int .i64 t)).alloc (.cells #[.int .i64 x, .slice (some ⟨g, 0, none⟩) n c] 26)) :=
          ((hb.setCell (p := ⟨g, k * 4 + 2, none⟩) hgB _).setCell (p := ⟨g, k * 4 + 3, none⟩) hgB _).alloc (by simpa using z2) _
        have HO4 : Hid (OwnPl (((w2.setCell ⟨g, k * 4 + 2, none⟩ (.int .i64 d)).setCell ⟨g, k * 4 + 3, none⟩ (.int .i64 t)).alloc (.cells #[.int .i64 x, .slice (some ⟨g, 0, none⟩) n c] 26)) w1.heap.size (.slice (some ⟨g, 0, none⟩) n c) (M.stF (M.stF l k 2 d) k 3 t)) :=
          ((ho.setF d (i := k) (j := 2) (by omega) (by omega)).setF t (i := k) (j := 3) (by omega) (by omega)).below (b_alloc _ _)
        obtain ⟨s0, s1, y0, y1⟩ := HR1.out.below hbs
        have HB4 := Lib.hid (HB1.out.trans (hbs.mono HB1.out.size))
        have zz : w.heap.size + 1 < w2.heap.size := by omega
        have HO5 : Hid (OwnPl (((((w2.setCell ⟨g, k * 4 + 2, none⟩ (.int .i64 d)).setCell ⟨g, k * 4 + 3, none⟩ (.int .i64 t)).setCell ⟨w.heap.size + 1, 0, none⟩ (.int .i64 x)).setCell ⟨w.heap.size + 1, 1, none⟩ (.slice (some ⟨g, 0, none⟩) n c)).alloc (.cells #[.int .i64 x, .slice (some ⟨g, 0, none⟩) n c] 26)) w.heap.size (.slice (some ⟨g, 0, none⟩) n c) (M.stF (M.stF l k 2 d) k 3 t)) := by
          refine OwnPl.below ?_ (b_alloc _ _)
          refine (((ho.setF d (i := k) (j := 2) (by omega) (by omega)).setF t (i := k) (j := 3) (by omega) (by omega)).keepB fun q hq => ?_).mono (by omega)
          simp [Value.ownBlock] at hq
          subst hq
          rw [Below.heap_setCell _ _ _ _ (by show g ≠ w.heap.size + 1; omega), Below.heap_setCell _ _ _ _ (by show g ≠ w.heap.size + 1; omega)]
        have hba : Below w.heap.size w w2 := HB1.out.trans (hb.mono HB1.out.size)
        have hgw : w.heap.size ≤ g := by omega
        have HB5 := Lib.hid (((((hba.setCell (p := ⟨g, k * 4 + 2, none⟩) hgw (.int .i64 d)).setCell (p := ⟨g, k * 4 + 3, none⟩) hgw (.int .i64 t)).setCell (p := ⟨w.heap.size + 1, 0, none⟩) (by show _ ≤ w.heap.size + 1; omega) (.int .i64 x)).setCell (p := ⟨w.heap.size + 1, 1, none⟩) (by show _ ≤ w.heap.size + 1; omega) (.slice (some ⟨g, 0, none⟩) n c)).alloc (by simp; omega) (.cells #[.int .i64 x, .slice (some ⟨g, 0, none⟩) n c] 26))
        clear ho hb g0 g1 r0 r1 f0 f1 c0 c1 hb3 hbs HB4 HO4 hba
        go_wp2
        rw [HR.out]
        exact bodyPost_ret (v := .tuple #[.agg #[.int .i64 x, .slice (some ⟨g, 0, none⟩) n c], .int .i64 0]) (by simp [results, Try.results19, go_sem, zz, hRne, hRn2, r0', r1', s0, s1]) rfl ⟨_, _, _, rfl, HO5.out, HB5.out⟩
set_option maxRecDepth 100000 in
set_option maxHeartbeats 2000000 in
theorem changePlace (x : Int) (a : Option Addr) (n cap : Nat) (l : List M.Pc) (i d t : Int) (w : World) (h : Pls w a n l) :
    Calls Try.prog 18 #[.agg #[.int .i64 x, .slice a n cap], .int .i64 i, .int .i64 d, .int .i64 t] w (GRes (M.chgRes x l i d t) w) := by
  have HI := Lib.hid h
  have hl : l.length = n := h.1
  have hb0 := b_alloc2 w (.cells #[.int .i64 x, .slice a n cap] 26) (.cells #[.int .i64 0, .slice none 0 0] 26)
  have hG : GBox ((w.alloc (.cells #[.int .i64 x, .slice a n cap] 26)).alloc (.cells #[.int .i64 0, .slice none 0 0] 26)) w.heap.size x a n cap := (gBox_new w x a n cap 26).below (b_alloc _ _)
  have hR : ResG ((w.alloc (.cells #[.int .i64 x, .slice a n cap] 26)).alloc (.cells #[.int .i64 0, .slice none 0 0] 26)) (w.heap.size + 1) := by
    have := resG_new (w.alloc (.cells #[.int .i64 x, .slice a n cap] 26)) 26
    rwa [World.size_alloc] at this
  obtain ⟨wb, hwb⟩ : ∃ z, z = (w.alloc (.cells #[.int .i64 x, .slice a n cap] 26)).alloc (.cells #[.int .i64 0, .slice none 0 0] 26) := ⟨_, rfl⟩
  rw [← hwb] at hb0 hG hR
  have HS := Lib.hid (isEventGraph x a n cap l wb (h.below hb0))
  have HG := Lib.hid hG
  have HRs := Lib.hid hR
  have HB0 := Lib.hid hb0
  obtain ⟨r, hr⟩ : ∃ r, r = M.chgRes x l i d t := ⟨_, rfl⟩
  have HC := Lib.hid (M.chg_cases2 x l i d t)
  obtain ⟨b0, hb0'⟩ : ∃ c, c = M.isGr x l := ⟨_, rfl⟩
  rw [← hr] at HC ⊢
  rw [← hb0', hl] at HC
  rw [← hb0'] at HS
  have HX : Hid (∀ W, n ≤ 1048576 → Calls Try.prog 50 #[.agg #[.int .i64 x, .slice a n cap], .int .i64 i] W fun e w' => e = .returned (.bool (M.inB i 0 ((n : Int) - 1))) ∧ Below W.heap.size W w') := fun W hn => hasIndex x a n cap i W hn
  obtain ⟨b1, hb1'⟩ : ∃ c, c = M.inB i 0 ((n : Int) - 1) := ⟨_, rfl⟩
  rw [← hb1'] at HC HX
  have hmx := h.2.1
  clear h hG hb0 hR hr hb0' hb1'
  go_enter Try.func18, Try.ntmps18
  go_wp2_with fail
  rw [← hwb]
  clear hwb
  refine (HS.out).mono ?_
  rintro e w1 ⟨rfl, hb1⟩
  have HB1 := Lib.hid (HB0.out.trans (hb1.mono HB0.out.size))
  have HI1 := Lib.hid (HI.out.below HB1.out)
  have HG1 := Lib.hid (HG.out.below hb1)
  obtain ⟨g0, g1⟩ := HG1.out
  have HR1 := Lib.hid (HRs.out.below hb1)
  obtain ⟨r0, r1, f0, f1⟩ := HR1.out
  have z1 : w.heap.size + 1 < w1.heap.size := cell_lt r0
  clear hb1 HS
  rcases HC.out with ⟨rfl, hr⟩ | ⟨rfl, h30, rfl, hr⟩ | ⟨k, rfl, hk, h30, rfl, rfl, hr1, hr2, hr3⟩
  · have HR := Lib.hid hr
    clear hr HC
    go_wp2
    exact bodyPost_ret (v := .tuple #[.agg #[.int .i64 0, .slice none 0 0], .int .i64 1]) (by simp [results, Try.results18, go_sem, z1, r0, r1]) rfl (GRes.nil HR.out ((HB1.out.setCell (by show _ ≤ w.heap.size + 1; omega) _).setCell (by show _ ≤ w.heap.size + 1; omega) _))
  · have HR := Lib.hid hr
    clear hr HC
    go_wp2_with fail
    refine (HX.out _ (by omega)).mono ?_
    rintro e w2 ⟨rfl, hb2⟩
    obtain ⟨r0', r1', f0', f1'⟩ := HR1.out.below hb2
    have HB2 := Lib.hid (HB1.out.trans (hb2.mono HB1.out.size))
    have z2 : w.heap.size + 1 < w2.heap.size := cell_lt r0'
    clear hb2 r0 r1 f0 f1 HX
    go_wp2
    exact bodyPost_ret (v := .tuple #[.agg #[.int .i64 0, .slice none 0 0], .int .i64 2]) (by simp [results, Try.results18, go_sem, z2, r0', r1']) rfl (GRes.nil HR.out ((HB2.out.setCell (by show _ ≤ w.heap.size + 1; omega) _).setCell (by show _ ≤ w.heap.size + 1; omega) _))
  · have HX1 := Lib.hid hr1
    have HX2 := Lib.hid hr2
    have HX3 := Lib.hid hr3
    clear hr1 hr2 hr3 HC
    have hki : (k : Int) < (n : Int) := by omega
    go_wp2_with fail
    refine (HX.out _ (by omega)).mono ?_
    rintro e w2 ⟨rfl, hb2⟩
    obtain ⟨r0', r1', f0', f1'⟩ := HR1.out.below hb2
    have HB2 := Lib.hid (HB1.out.trans (hb2.mono HB1.out.size))
    have z2 : w.heap.size + 1 < w2.heap.size := cell_lt r0'
    have HG2 := Lib.hid (HG1.out.below hb2)
    have HI2 := Lib.hid (HI1.out.below hb2)
    have HR2 := Lib.hid (HR1.out.below hb2)
    clear g0 g1
    obtain ⟨g0, g1⟩ := HG2.out
    clear hb2 r0 r1 f0 f1 HX
    obtain ⟨bd, hbd⟩ : ∃ c, c = M.inB d 0 1000 := ⟨_, rfl⟩
    have HU : Hid (∀ W, Calls Try.prog 51 #[.int .i64 d, .int .i64 1000] W fun e w' => e = .returned (.bool bd) ∧ W = w') := fun W => by rw [hbd]; exact isUpTo d 1000 W
    rw [← hbd] at HX1 HX2
    clear hbd
    obtain ⟨bt, hbt⟩ : ∃ c, c = M.inB t 0 5 := ⟨_, rfl⟩
    have HV : Hid (∀ W, Calls Try.prog 51 #[.int .i64 t, .int .i64 5] W fun e w' => e = .returned (.bool bt) ∧ W = w') := fun W => by rw [hbt]; exact isUpTo t 5 W
    rw [← hbt] at HX1 HX3
    clear hbt
    cases bd with
    | false =>
      have HR := Lib.hid (HX2.out rfl)
      clear HX1 HX2 HX3
      go_wp2_with fail
      refine (HU.out _).mono ?_
      rintro e w' ⟨rfl, rfl⟩
      go_wp2
      exact bodyPost_ret (v := .tuple #[.agg #[.int .i64 0, .slice none 0 0], .int .i64 2]) (by simp [results, Try.results18, go_sem, z2, r0', r1']) rfl (GRes.nil HR.out ((HB2.out.setCell (by show _ ≤ w.heap.size + 1; omega) _).setCell (by show _ ≤ w.heap.size + 1; omega) _))
    | true =>
      cases bt with
      | false =>
        have HR := Lib.hid (HX3.out rfl)
        clear HX1 HX2 HX3
        go_wp2_with fail
        refine (HU.out _).mono ?_
        rintro e w' ⟨rfl, rfl⟩
        go_wp2_with fail
        refine (HV.out _).mono ?_
        rintro e w' ⟨rfl, rfl⟩
        go_wp2
        exact bodyPost_ret (v := .tuple #[.agg #[.int .i64 0, .slice none 0 0], .int .i64 2]) (by simp [results, Try.results18, go_sem, z2, r0', r1']) rfl (GRes.nil HR.out ((HB2.out.setCell (by show _ ≤ w.heap.size + 1; omega) _).setCell (by show _ ≤ w.heap.size + 1; omega) _))
      | true =>
        have HR := Lib.hid (HX1.out rfl rfl)
        clear HX1 HX2 HX3
        obtain ⟨b, off, -, -, -, -, rfl, -⟩ := HI2.out.at k (by omega)
        go_wp2_with fail
        refine (HU.out _).mono ?_
        rintro e w' ⟨rfl, rfl⟩
        go_wp2_with fail
        refine (HV.out _).mono ?_
        rintro e w' ⟨rfl, rfl⟩
        go_wp2_with fail
        refine (clonePl b off n cap l w2 HI2.out (by omega)).mono ?_
        rintro e w3 ⟨g, c, rfl, ho, hb⟩
        obtain ⟨g', o', p0, p1, p2, p3, hgg, hglt, -, c0, c1, c2, c3⟩ := ho.pls.at k (by omega)
        injection hgg with hgg
        injection hgg with e1 e2
        subst e1 e2
        simp only [Nat.zero_add] at c0 c1 c2 c3
        have hgB : w2.heap.size ≤ g := (ho.lt rfl).1
        have f2 := ho.frozenAt (k * 4 + 2)
        have f3 := ho.frozenAt (k * 4 + 3)
        have z3 := hb.size
        have hRne : w.heap.size + 1 ≠ g := by omega
        have HCh := Lib.hid (change g (k * 4) d t w3 ⟨_, c2⟩ ⟨_, c3⟩ f2 f3)
        have hbs : Below w2.heap.size w2 ((w3.setCell ⟨g, k * 4 + 2, none⟩ (.int .i64 d)).setCell ⟨g, k * 4 + 3, none⟩ (.int .i64 t)) :=
          (hb.setCell (p := ⟨g, k * 4 + 2, none⟩) hgB _).setCell (p := ⟨g, k * 4 + 3, none⟩) hgB _
        have ho4 := (ho.setF d (i := k) (j := 2) (by omega) (by omega)).setF t (i := k) (j := 3) (by omega) (by omega)
        clear ho c0 c1 c2 c3 f2 f3
        go_wp2_with fail
        refine (HCh.out).mono ?_
        rintro e w4 ⟨rfl, hw4⟩
        rw [← hw4] at hbs ho4
        have HR4 := Lib.hid (HR2.out.below hbs)
        have HB4 := Lib.hid (HB2.out.trans (hbs.mono HB2.out.size))
        have z4 := hbs.size
        have HO4 := Lib.hid ho4
        clear g0 g1 r0' r1' f0' f1'
        obtain ⟨g0, g1⟩ := HG2.out.below hbs
        clear hbs hw4 ho4 HCh hb
        go_wp2_with fail
        refine (withPl x (some ⟨b, off, none⟩) n cap (some ⟨g, 0, none⟩) n c w4).mono ?_
        rintro e w5 ⟨rfl, hb5⟩
        have HO5 := Lib.hid (HO4.out.below hb5)
        have HB5 := Lib.hid (HB4.out.trans (hb5.mono HB4.out.size))
        obtain ⟨r0, r1, f0, f1⟩ := HR4.out.below hb5
        have z5 : w.heap.size + 1 < w5.heap.size := cell_lt r0
        have HO6 : Hid (OwnPl ((w5.setCell ⟨w.heap.size + 1, 0, none⟩ (.int .i64 x)).setCell ⟨w.heap.size + 1, 1, none⟩ (.slice (some ⟨g, 0, none⟩) n c)) w.heap.size (.slice (some ⟨g, 0, none⟩) n c) (M.stF (M.stF l k 2 d) k 3 t)) := by
          refine (HO5.out.keepB fun q hq => ?_).mono (by omega)
          simp [Value.ownBlock] at hq
          subst hq
          rw [Below.heap_setCell _ _ _ _ (by show g ≠ w.heap.size + 1; omega), Below.heap_setCell _ _ _ _ (by show g ≠ w.heap.size + 1; omega)]
        have HB6 := Lib.hid ((HB5.out.setCell (p := ⟨w.heap.size + 1, 0, none⟩) (by show _ ≤ w.heap.size + 1; omega) (.int .i64 x)).setCell (p := ⟨w.heap.size + 1, 1, none⟩) (by show _ ≤ w.heap.size + 1; omega) (.slice (some ⟨g, 0, none⟩) n c))
        clear hb5 g0 g1
        go_wp2
        rw [HR.out]
        exact bodyPost_ret (v := .tuple #[.agg #[.int .i64 x, .slice (some ⟨g, 0, none⟩) n c], .int .i64 0]) (by simp [results, Try.results18, go_sem, z5, hRne, r0, r1]) rfl ⟨_, _, _, rfl, HO6.out, HB6.out⟩
end V
end Go.Proofs.Ytkjcnlihmhcakaa
