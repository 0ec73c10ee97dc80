/- Texts laid together: Sag, Clo4, Fnd, Prp, Mat1. -/
import Derived.Test.YtcofjjipjcekjabQb12
import Derived.Test.YtcofjjipjcekjabQb6
import Derived.Test.YtcofjjipjcekjabQb2
import Derived.Test.YtcofjjipjcekjabQb5
import Derived.Test.YtcofjjipjcekjabRows
import Derived.Test.YtcofjjipjcekjabQb1
import Derived.WalkKit
import Derived.ProofKit
import Derived.WalkSmall
import Derived.Deep.QuietTactic
import Derived.BigQuiet
import Derived.BigRegion
import Derived.Deep.Draws
import Derived.Lib.Hide
import Derived.OpenShut
import Derived.Deep.OwnRows
set_option linter.unusedSimpArgs false
set_option linter.unusedVariables false
set_option linter.unusedSectionVars false
namespace Go.Proofs.Ytcofjjipjcekjab.V
set_option maxRecDepth 100000
open Go.RowKit
theorem flat_rect {X : List (List Int)} {n L : Nat} (h : Rect X n L) : X.flatten.length = n * L := by
  obtain ⟨h1, h2⟩ := h
  subst h1
  have : X.map List.length = List.replicate X.length L := by
    apply List.ext_getElem?
    intro i
    rw [List.getElem?_map, List.getElem?_replicate]
    by_cases hi : i < X.length
    · have := h2 i hi
      rw [List.getD_eq_getElem?_getD, List.getElem?_eq_getElem hi, Option.getD_some] at this
      rw [List.getElem?_eq_getElem hi, if_pos hi, Option.map_some, this]
    · rw [List.getElem?_eq_none (by omega), if_neg hi]; rfl
  rw [List.length_flatten, this, List.sum_replicate_nat]
/-- A series that has been looked at up to its element k. -/
def IsSerG (w0 w : World) (p : Nat) (a : Option Addr) (n cap : Nat) (R F : List (List Int)) (k : Nat) (G : Option (Nat × Obj)) : Prop :=
  Below w0.heap.size w0 w ∧ w0.heap.size ≤ p ∧ ∃ b1 c1 b2 c2, w.rowIs p 78 3 (serF (.slice a n cap) (.slice b1 n c1) (.slice b2 (k + 1) c2)) ∧
    OwnP w w0.heap.size (fun q => q ≠ p) (.slice b1 n c1) (M.sq7 R F k) ∧ OwnP w w0.heap.size (fun q => q ≠ p) (.slice b2 (k + 1) c2) (M.sqL R F (k + 1)) ∧ ∀ r o, G = some (r, o) → (Value.slice b2 (k + 1) c2).ownBlock ≠ some r ∧ r ≠ p ∧ w.heap[r]? = some o
theorem IsSerG.keep {w0 w w' : World} {p n cap k : Nat} {a : Option Addr} {R F : List (List Int)} {G : Option (Nat × Obj)} (h : IsSerG w0 w p a n cap R F k G) (hb : Below w.heap.size w w') : IsSerG w0 w' p a n cap R F k G := by
  obtain ⟨h1, h2, b1, c1, b2, c2, h3, h4, h5, h7⟩ := h
  exact ⟨h1.trans (hb.mono h1.size), h2, b1, c1, b2, c2, World.rowIs.of_block h3 (hb.block p (World.rowIs.lt h3)), h4.below hb, h5.below hb, fun r o e => ⟨(h7 r o e).1, (h7 r o e).2.1, (hb.block r (heap_lt (h7 r o e).2.2)).trans (h7 r o e).2.2⟩⟩
theorem IsSerG.start {w0 w : World} {p n cap k : Nat} {a : Option Addr} {R F : List (List Int)} (h : IsSer w0 w p a n cap R F k) : IsSerG w0 w p a n cap R F k none := by
  obtain ⟨h1, h2, b1, c1, b2, c2, h3, h4, h5⟩ := h
  exact ⟨h1, h2, b1, c1, b2, c2, h3, h4, h5, fun r o e => by cases e⟩
theorem IsSerG.none {w0 w : World} {p n cap k : Nat} {a : Option Addr} {R F : List (List Int)} {G : Option (Nat × Obj)} (h : IsSerG w0 w p a n cap R F k G) : IsSerG w0 w p a n cap R F k none := by
  obtain ⟨h1, h2, b1, c1, b2, c2, h3, h4, h5, -⟩ := h
  exact ⟨h1, h2, b1, c1, b2, c2, h3, h4, h5, fun r o e => by cases e⟩
theorem IsSerG.ser {w0 w : World} {p n cap k : Nat} {a : Option Addr} {R F : List (List Int)} {G : Option (Nat × Obj)} (h : IsSerG w0 w p a n cap R F k G) : IsSer w0 w p a n cap R F k := by
  obtain ⟨h1, h2, b1, c1, b2, c2, h3, h4, h5, -⟩ := h
  exact ⟨h1, h2, b1, c1, b2, c2, h3, h4, h5⟩
theorem OwnP.rowg {w : World} {B n cap : Nat} {P : Nat → Prop} {a : Option Addr} {R : List (List Int)} (h : OwnP w B P (.slice a n cap) R) (i : Nat) (hi : i < n) (hne : 0 < (R.getD i []).length) :
    ∃ g q rc, a = some ⟨g, 0, none⟩ ∧ w.cell? ⟨g, i, none⟩ = some (.slice (some ⟨q, 0, none⟩) (R.getD i []).length rc) ∧ Own w B (.slice (some ⟨q, 0, none⟩) (R.getD i []).length rc) (R.getD i []) ∧ P q ∧ q ≠ g := by
  have hl := (OwnP.toM h).len
  obtain ⟨V, ⟨h1, h2, h3, h4, h5⟩, k1, k2⟩ := h
  obtain ⟨a', c', hv, hc, hm, hg⟩ := own_form h2
  injection hv with e1 e2 e3
  subst e1 e2 e3
  obtain ⟨g, rfl, hB, hlt⟩ := hg (by omega)
  have hr := h3 i (by omega)
  obtain ⟨ra, rc, hrv, hrc, hrm, hrg⟩ := own_form hr
  have hq := h4 i (by omega)
  have hP := k2 i (by omega)
  rw [hrv] at hr hq hP
  obtain ⟨q, rfl, -, -⟩ := hrg hne
  refine ⟨g, q, rc, rfl, ?_, hr, hP q rfl, fun e => hq q rfl (by rw [e]; rfl)⟩
  rw [World.ownsRow.cellAt h2 i (by omega), ← hrv]
  rw [List.getD_eq_getElem?_getD, List.getElem?_eq_getElem (by omega)]
  rfl
/-- A row of its own is appended, at a step of a region. -/
theorem step_appendRowQ (w0 w : World) {ops : Array Oper} {o : Oper} {a : Act} {K : Act → World → Prop} {Q : Exit → Act → World → Prop} {E : Prop} (hgd : o.guard = none) (s x : Operand)
    (ho : o.op = .call { callee := .builtin .append, args := #[s, x], argTypes := #[24, 24] }) (B : Nat) (P : Nat → Prop) (v rv : Value) (R : List (List Int)) (l : List Int) (n g : Nat) (hn : R.length = n) (hs : a.eval s = v) (hown : OwnP w0 B P v R) (hb : Below w0.heap.size w0 w) (hro : Own w w0.heap.size rv l)
    (hx : a.eval x = .slice (some ⟨g, 0, none⟩) 1 1) (hy : w.cell? ⟨g, 0, none⟩ = some rv) (hlen : n ≤ 2000000) (hB : B ≤ w0.heap.size) (hP : ∀ k, w0.heap.size ≤ k → P k)
    (h : ∀ b' c' w', OwnP w' B P (.slice b' (n + 1) c') (R ++ [l]) → Below B w w' → (∀ k, k < w.heap.size → v.ownBlock ≠ some k → w'.heap[k]? = w.heap[k]?) → (v.ownBlock = (Value.slice b' (n + 1) c').ownBlock ∨ (Value.slice b' (n + 1) c').ownBlock = some w.heap.size) → K (a.put o.dst (.slice b' (n + 1) c')) w') :
    if Region.wanted o (yielded ops a.tmps) = true then Oper.wp Try.prog o a w K Q else E := by
  subst hn
  obtain ⟨i0, hi, hz0, hz1, hz2⟩ := info_parts infoS64
  have hsz := hb.size
  obtain ⟨V, ⟨h1, h2, h3⟩, k1, k2⟩ := hown
  have hwV : w.ownsRow B 25 1 v R.length V := ownsRow_keep h2 (fun k hv => hb.block k (own_lt h2 hv).2)
  refine step_append_lies w hgd s x 24 ho B 25 i0 (.slice none 0 0) 1 24 Try.underlying24 hi hz0 hz1 hz2 rfl (by decide) v R.length V hs hwV ⟨g, 0, none⟩ 1 1 [rv] hx rfl ?c1 ?c2 (by decide) ?c3 ?c4 (Nat.le_trans hB hsz) w.heap.size rfl ?_
  case c1 =>
    intro j u hj
    have : j = 0 := by
      cases j with
      | zero => rfl
      | succ j => simp at hj
    subst this
    simp at hj
    subst hj
    exact hy
  case c2 =>
    intro u hu; simp at hu; subst hu
    obtain ⟨b', c', hv', _⟩ := own_form hro
    rw [hv']; rfl
  case c3 => unfold maxLen; omega
  case c4 => omega
  · intro g' cap' w' hown' hgrow hat hlt
    have hg : ∀ k, k < w.heap.size → v.ownBlock ≠ some k → w'.heap[k]? = w.heap[k]? := fun k hk hne => by
      obtain ⟨_, _, _, _, g5⟩ := hgrow
      exact g5 k hk (fun e => hne e.symm)
    have hV := OwnV.snocV (q := w.heap.size) (v' := .slice (some ⟨g', 0, none⟩) (R.length + 1) cap') ⟨h1, h2, h3⟩ hb hB hro hown' hg (by
      rcases hat with e | e
      · left; rw [e]; rfl
      · right; rw [e]; rfl) (Nat.le_refl _)
    refine h _ _ w' ⟨V ++ [rv], hV, fun k hk => ?_, fun i hi k hk => ?_⟩ ((Below.refl B w).grown hgrow (Nat.le_trans hB hsz) (fun k hk => (own_lt h2 hk).1)) hg (by
      rcases hat with e | e
      · left; rw [e]; rfl
      · right; rw [e]; rfl)
    · have hk' : g' = k := by simpa [Value.ownBlock] using hk
      subst hk'
      rcases hat with e | e
      · exact k1 _ e
      · exact hP _ (by omega)
    · have hlen : V.length = R.length := h1
      simp only [List.length_append, List.length_singleton] at hi
      by_cases q : i < R.length
      · rw [List.getD_eq_getElem?_getD, List.getElem?_append_left (by omega), ← List.getD_eq_getElem?_getD] at hk
        exact k2 i q k hk
      · obtain rfl : i = V.length := by omega
        have e : (V ++ [rv]).getD V.length (.slice none 0 0) = rv := by simp [List.getD_eq_getElem?_getD]
        rw [e] at hk
        exact hP k (own_lt hro hk).1
theorem serLG (w : World) {p n cap k : Nat} {w0 : World} {a : Option Addr} {R F : List (List Int)} {G : Option (Nat × Obj)} (h : IsSerG w0 w p a n cap R F k G) : lenOf (w.cell? ⟨p, 2, none⟩) = k + 1 := by
  obtain ⟨-, -, b1, c1, b2, c2, h3, -⟩ := h
  have := World.rowIs.cell h3 (i := 2) (by omega)
  rw [this]
  rfl
set_option maxRecDepth 100000 in
set_option maxHeartbeats 4000000 in
theorem sAt7G (w0 : World) (a : Option Addr) (n cap L : Nat) (R F : List (List Int)) (p k0 q : Nat) (G : Option (Nat × Obj)) (w : World) (hS : SerB w0 a n L R F) (h : IsSerG w0 w p a n cap R F k0 G) (hok : M.okTo R F k0) (hq : q ≤ 200) :
    Calls Try.prog 63 #[.pointer (some ⟨p, 0, none⟩), .int .i64 q] w fun e w' =>
      (∃ k1, q ≤ k1 ∧ k0 ≤ k1 ∧ (k1 = k0 ∨ k1 = q) ∧ M.okTo R F k1 ∧ IsSerG w0 w' p a n cap R F k1 G ∧ ∃ ra m rc, e = .returned (.tuple #[.slice ra m rc, .bool true]) ∧ Ints .i64 w' ra m (M.sq7 R F q).flatten ∧ ∃ g o, IsSerG w0 w' p a n cap R F k1 (some (g, o)) ∧ ∀ w'', w''.heap[g]? = some o → Ints .i64 w'' ra m (M.sq7 R F q).flatten) ∨
      (∃ j, k0 < j ∧ j ≤ q ∧ M.okTo R F (j - 1) ∧ M.okQ R F j = false ∧ e = .returned (.tuple #[.slice none 0 0, .bool false]) ∧ Below w0.heap.size w0 w') := by
  have HS := Lib.hid hS
  have H0 := Lib.hid h
  have HOk := Lib.hid hok
  have n1 := hS.n1
  have n2 := hS.n2
  have l1 := hS.l1
  have l2 := hS.l2
  have HRB : Hid (∀ i j, i < n → j < n → M.Big (M.ent R i j)) := fun i j hi hj => M.big_sm (hS.sm i j hi hj) (by omega)
  clear hS h hok
  go_enter Try.func63, Try.ntmps63
  go_wp2
  go_loopw [6] (fun _ wr => ∃ k : Nat, k0 ≤ k ∧ (k = k0 ∨ k ≤ q) ∧ Hid (M.okTo R F k) ∧ Hid (IsSerG w0 wr p a n cap R F k G)) (fun _ wr => q + 1 - lenOf (wr.cell? ⟨p, 2, none⟩))
  case atStart => exact ⟨k0, Nat.le_refl _, .inl rfl, HOk, H0⟩
  case round =>
    obtain ⟨k, hk1, hk2, HOkk, HI⟩ := hrel
    obtain ⟨wo, rfl⟩ : ∃ x, x = wr := ⟨_, rfl⟩
    obtain ⟨hb0, hp, b1, c1, b2, c2, hrow, ho1, ho2, hgu⟩ := HI.out
    have HGo := Lib.hid hgu
    have HB := Lib.hid hb0
    have HRow := Lib.hid hrow
    have HO1 := Lib.hid ho1
    have HO2 := Lib.hid ho2
    have hpl := World.rowIs.lt hrow
    have s0 : wo.cell? ⟨p, 0, none⟩ = some (.slice a n cap) := World.rowIs.cell hrow (i := 0) (by omega)
    have s1 : wo.cell? ⟨p, 1, none⟩ = some (.slice b1 n c1) := World.rowIs.cell hrow (i := 1) (by omega)
    have s2 : wo.cell? ⟨p, 2, none⟩ = some (.slice b2 (k + 1) c2) := World.rowIs.cell hrow (i := 2) (by omega)
    clear hb0 hrow ho1 ho2 hgu
    by_cases hlt : k < q
    · have hle : (k : Int) + 1 ≤ (q : Int) := by omega
      obtain ⟨hrk, hvk⟩ := HS.out.sq (HOkk.out k (Nat.le_refl _))
      have HRk := Lib.hid hrk
      have HVk : Hid (∀ i j, i < n → j < L → M.Big (M.ent (M.sq7 R F k) i j)) := fun i j hi hj => M.big_val (hvk i j hi hj)
      have HNx := Lib.hid (HS.out.next k)
      clear hrk hvk
      go_wp2
      go_region_law (go_simp; go_at_call 105; refine (sMultiplyB a n cap n R b1 c1 L (M.sq7 R F k) _ ?ha ?hb1 HS.out.rect HRk.out HRB.out HVk.out n1 n2 n1 n2 l1 l2).mono ?_; (case ha => exact (HS.out.mat.below HB.out).below (Below.refl _ _).drew); (case hb1 => exact HO1.out.toM.mat.below (Below.refl _ _).drew); rintro e w1 ⟨b3, c3, rfl, ho3, hb3⟩; rw [← HNx.out] at ho3; have HO3 := Lib.hid ho3; have HB3 := Lib.hid hb3; have HR3 := Lib.hid (World.rowIs.of_block (w' := w1) HRow.out (hb3.block p hpl)); have t1 := World.rowIs.cell HR3.out (i := 1) (by omega); have t2 := World.rowIs.frozen HR3.out 1; clear ho3 hb3)
      all_goals
        have HRs := Lib.hid ((World.rowIs.set HR3.out 1 (.slice b3 n c3)).congr (serF_set1 _ _ _ _))
        have HO2s : Hid (OwnP (w1.setCell ⟨p, 1, none⟩ (.slice b3 n c3)) w0.heap.size (fun q => q ≠ p) (.slice b2 (k + 1) c2) (M.sqL R F (k + 1))) := (HO2.out.keep (w' := w1) fun j _ _ hj => HB3.out.block j hj).keep fun j hj _ _ => Below.heap_setCell _ _ _ _ hj
        have HO3s : Hid (OwnP (w1.setCell ⟨p, 1, none⟩ (.slice b3 n c3)) w0.heap.size (fun q => wo.heap.size ≤ q) (.slice b3 n c3) (M.sq7 R F (k + 1))) := ((HO3.out.toP (P := fun q => wo.heap.size ≤ q) fun j h1 _ => h1).mono (HB.out.size)).keep fun j hj _ _ => Below.heap_setCell _ _ _ _ (by show j ≠ p; omega)
        have HLb : Hid (∀ j, (Value.slice b2 (k + 1) c2).ownBlock = some j → j ≠ p ∧ j < wo.heap.size) := fun j hj => by
          obtain ⟨V, q0, q1, -⟩ := HO2.out
          exact ⟨q1 j hj, (own_lt q0.2.1 hj).2⟩
        have HBs : Hid (Below w0.heap.size w0 (w1.setCell ⟨p, 1, none⟩ (.slice b3 n c3))) := (HB.out.trans (((Below.refl _ wo).drew.trans (HB3.out.mono (Nat.le_refl _))).mono HB.out.size)).setCell hp _
        have HGu : Hid (∀ r o, G = some (r, o) → (Value.slice b2 (k + 1) c2).ownBlock ≠ some r ∧ r ≠ p ∧ r < wo.heap.size ∧ (w1.setCell ⟨p, 1, none⟩ (.slice b3 n c3)).heap[r]? = some o) := Lib.hid (fun r o e => ⟨(HGo.out r o e).1, (HGo.out r o e).2.1, heap_lt (HGo.out r o e).2.2, (Below.heap_setCell _ _ _ _ (HGo.out r o e).2.1).trans ((HB3.out.block r (heap_lt (HGo.out r o e).2.2)).trans (HGo.out r o e).2.2)⟩)
        have hws : wo.heap.size ≤ (w1.setCell ⟨p, 1, none⟩ (.slice b3 n c3)).heap.size := by have := HB3.out.size; have e : wo.drew.heap.size = wo.heap.size := rfl; simp; omega
        have HI0 := HI
        clear HR3 HO2 HO3 HB3 HRow HO1 HB HI t1 t2 s0 s1 s2
        generalize w1.setCell ⟨p, 1, none⟩ (.slice b3 n c3) = ws at *
        have u1 : ws.cell? ⟨p, 1, none⟩ = some (.slice b3 n c3) := World.rowIs.cell HRs.out (i := 1) (by omega)
        obtain ⟨bv, hbv⟩ : ∃ b, b = M.isMat (M.sq7 R F (k + 1)) := ⟨_, rfl⟩
        have HBv := Lib.hid hbv.symm
        clear hbv
        cases bv with
        | false =>
          go_wp2_with fail
          refine (sIsMatrixB_b _ _ _ (M.sq7 R F (k + 1)) _ false HBv.out HO3s.out.toM.mat).mono ?_
          rintro e w' ⟨rfl, hb⟩
          have HBe := Lib.hid (HBs.out.trans (hb.mono HBs.out.size))
          clear hb u1
          go_wp2
          go_ret2
          exact .inr ⟨k + 1, by omega, by omega, HOkk.out, HBv.out, rfl, HBe.out⟩
        | true =>
          have HOk2 : Hid (M.okTo R F (k + 1)) := fun j hj => by
            by_cases e : j = k + 1
            · subst e; exact HBv.out
            · exact HOkk.out j (by omega)
          have HRk2 := Lib.hid (HS.out.sq (k := k + 1) HBv.out).1
          go_wp2_with fail
          refine (sIsMatrixB_b _ _ _ (M.sq7 R F (k + 1)) _ true HBv.out HO3s.out.toM.mat).mono ?_
          rintro e w2 ⟨rfl, hb⟩
          have HR2 := Lib.hid (World.rowIs.of_block (w' := w2) HRs.out (hb.block p (World.rowIs.lt HRs.out)))
          have HL2 := Lib.hid (HO2s.out.below hb)
          have HM2 := Lib.hid (HO3s.out.below hb)
          have HB2 := Lib.hid (HBs.out.trans (hb.mono HBs.out.size))
          have HWz := Lib.hid hb.size
          have HW2 : Hid (∀ r, r < ws.heap.size → w2.heap[r]? = ws.heap[r]?) := Lib.hid (fun r hr => hb.block r hr)
          clear hb u1 HRs HO2s HO3s HBs
          have hp2 := World.rowIs.lt HR2.out
          have v1 : w2.cell? ⟨p, 1, none⟩ = some (.slice b3 n c3) := World.rowIs.cell HR2.out (i := 1) (by omega)
          have v2 : w2.cell? ⟨p, 2, none⟩ = some (.slice b2 (k + 1) c2) := World.rowIs.cell HR2.out (i := 2) (by omega)
          have HSl : Hid ((M.sqL R F (k + 1)).length = k + 1) := M.sqL_len _ _ _
          have HSn : Hid (M.sqL R F (k + 1) ++ [(M.sq7 R F (k + 1)).flatten] = M.sqL R F (k + 1 + 1)) := (M.sqL_next _ _ _).symm
          have hz2 : w0.heap.size ≤ w2.heap.size := HB2.out.size
          have HG2 : Hid (∀ r o, G = some (r, o) → (Value.slice b2 (k + 1) c2).ownBlock ≠ some r ∧ r ≠ p ∧ r < wo.heap.size ∧ r < w2.heap.size ∧ w2.heap[r]? = some o) := Lib.hid (fun r o e => ⟨(HGu.out r o e).1, (HGu.out r o e).2.1, (HGu.out r o e).2.2.1, Nat.lt_of_lt_of_le (heap_lt (HGu.out r o e).2.2.2) HWz.out, (HW2.out r (heap_lt (HGu.out r o e).2.2.2)).trans (HGu.out r o e).2.2.2⟩)
          go_wp2
          go_region_law (first
            | (refine step_appendRowQ w2.drew _ rfl _ _ rfl w0.heap.size (fun q => q ≠ p) _ (.slice b4 m4 c4) (M.sqL R F (k + 1)) (M.sq7 R F (k + 1)).flatten (k + 1) _ HSl.out rfl ?hown ?hb ?hro rfl ?hy (by omega) hz2 ?hP ?_; (case hown => exact HL2.out.below (Below.refl _ _).drew); (case hb => exact HB4.out.trans ((b_alloc _ _).mono HB4.out.size)); (case hro => exact HO4.out.below (b_alloc _ _)); (case hy => simp); (case hP => intro j hj; have : w2.heap.size ≤ j := hj; omega); intro b5 c5 w5 ho5 hb5 hk5 hat5; have HAt := Lib.hid hat5; rw [HSn.out] at ho5; have HO5 := Lib.hid ho5; have HB5 := Lib.hid hb5; have HR5 := Lib.hid (World.rowIs.of_block (w' := w5) HR4.out ((hk5 p (by simp; have := HB4.out.size; have e : w2.drew.heap.size = w2.heap.size := rfl; omega) (fun e => (HLb.out p e).1 rfl)).trans (Below.heap_alloc _ _ _ (World.rowIs.lt HR4.out)))); have HK5 := Lib.hid hk5; have t2 := World.rowIs.cell HR5.out (i := 2) (by omega); have t3 := World.rowIs.frozen HR5.out 2; clear ho5 hb5 hk5 hat5)
            | (go_simp; go_at_call 103; refine (sFlat7 b3 n c3 L (M.sq7 R F (k + 1)) _ ?hm HRk2.out n2 l1 l2).mono ?_; (case hm => exact HM2.out.toM.mat.below (Below.refl _ _).drew); rintro e w4 ⟨b4, m4, c4, rfl, ho4, hb4⟩; have HO4 := Lib.hid ho4; have HB4 := Lib.hid hb4; have HR4 := Lib.hid (World.rowIs.of_block (w' := w4) HR2.out (hb4.block p hp2)); have t4 := World.rowIs.cell HR4.out (i := 2) (by omega); have t5 : ∀ o, (w4.alloc o).cell? ⟨p, 2, none⟩ = some (.slice b2 (k + 1) c2) := (fun o => (World.cell?_alloc_old _ _ _ (Nat.ne_of_lt (World.rowIs.lt HR4.out))).trans t4); clear ho4 hb4))
          all_goals
            have HIn : Hid (IsSerG w0 (w5.setCell ⟨p, 2, none⟩ (.slice b5 (k + 1 + 1) c5)) p a n cap R F (k + 1) G) := by
              refine ⟨?_, hp, b3, c3, b5, c5, (World.rowIs.set HR5.out 2 (.slice b5 (k + 1 + 1) c5)).congr (serF_set2 _ _ _ _), ?_, ?_, fun r o e => ?_⟩
              · have q1 : Below w0.heap.size w0 w4 := HB2.out.trans (((Below.refl _ w2).drew.trans (HB4.out.mono (Nat.le_refl _))).mono hz2)
                have q2 := (q1.trans ((b_alloc w4 (.cells #[.slice b4 m4 c4] 25)).mono q1.size)).trans HB5.out
                exact q2.setCell hp _
              · refine OwnP.imp (P := fun q => wo.heap.size ≤ q) (OwnP.keep (w := w5) (OwnP.keep (w := w2) HM2.out fun j hj h1 h2 => ?_) fun j hj _ _ => Below.heap_setCell _ _ _ _ (by show j ≠ p; omega)) fun j hj => by omega
                have hj4 : j < w4.heap.size := by have := HB4.out.size; have e : w2.drew.heap.size = w2.heap.size := rfl; omega
                exact ((HK5.out j (by simp; omega) (fun e => by have := (HLb.out j e).2; omega)).trans (Below.heap_alloc _ _ _ hj4)).trans (HB4.out.block j h2)
              · exact HO5.out.keep fun j hj _ _ => Below.heap_setCell _ _ _ _ hj
              · obtain ⟨r1, r2, r3, r4, r5⟩ := HG2.out r o e
                have hr4 : r < w4.heap.size := by have := HB4.out.size; have e : w2.drew.heap.size = w2.heap.size := rfl; omega
                refine ⟨fun e => ?_, r2, ?_⟩
                · rcases HAt.out with q | q
                  · exact r1 (q.trans e)
                  · rw [e] at q; exact absurd (Option.some.inj q) (by simp; omega)
                · rw [Below.heap_setCell _ _ _ _ r2]
                  exact (((HK5.out r (by simp; omega) r1).trans (Below.heap_alloc _ _ _ hr4)).trans (HB4.out.block r r4)).trans r5
            go_wp2
            go_roundw
            case rel => exact ⟨k + 1, by omega, .inr (by omega), HOk2, HIn⟩
            case measure => rw [serLG _ HIn.out, serLG _ HI0.out]; omega
    · have hgt : ¬ ((k : Int) + 1 ≤ (q : Int)) := by omega
      have hqk : (q : Int) < (k : Int) + 1 := by omega
      have hpos : 0 < (M.sq7 R F q).flatten.length := by
        obtain ⟨hrq, -⟩ := HS.out.sq (HOkk.out q (by omega))
        have e1 : (M.sq7 R F q).flatten.length = n * L := flat_rect hrq
        rw [e1]
        exact Nat.mul_pos n1 l1
      obtain ⟨g2, q2, rc, rfl, hcr, hro, hq2, hqg⟩ := HO2.out.rowg q (by omega) (by rw [M.sqL_get (show q < k + 1 by omega)]; exact hpos)
      rw [M.sqL_get (show q < k + 1 by omega)] at hcr hro
      have hqs := (own_lt hro (k := q2) rfl).2
      obtain ⟨mm, hmm⟩ : ∃ mm, mm = (M.sq7 R F q).flatten.length := ⟨_, rfl⟩
      rw [← hmm] at hcr hro
      obtain ⟨o, ho⟩ : ∃ o, wo.heap[q2]? = some o := ⟨_, Array.getElem?_eq_getElem hqs⟩
      have HRo := Lib.hid hro
      have HGq : Hid (IsSerG w0 wo p a n cap R F k (some (q2, o))) := by
        refine ⟨HB.out, hp, b1, c1, _, c2, HRow.out, HO1.out, HO2.out, fun r o' e => ?_⟩
        have e1 : q2 = r := congrArg Prod.fst (Option.some.inj e)
        have e2 : o = o' := congrArg Prod.snd (Option.some.inj e)
        rw [← e1, ← e2]
        exact ⟨fun e => hqg (Option.some.inj e).symm, hq2, ho⟩
      have HRw : Hid (∀ w'', w''.heap[q2]? = some o → Own w'' w0.heap.size (.slice (some ⟨q2, 0, none⟩) mm rc) (M.sq7 R F q).flatten) := Lib.hid (fun w'' hw => ownE_keep HRo.out fun j hj => by
        have hj : q2 = j := Option.some.inj hj
        rw [← hj, hw, ho])
      clear hro hmm ho
      go_wp2
      go_ret2
      exact .inl ⟨k, by omega, hk1, by omega, HOkk.out, HI.out, _, mm, ⟨rc, rfl⟩, HRo.out.ints', q2, o, HGq.out, fun w'' hw => (HRw.out w'' hw).ints'⟩
end Go.Proofs.Ytcofjjipjcekjab.V

namespace Go.Proofs.Ytcofjjipjcekjab.V
open Go.RowKit

set_option maxRecDepth 100000 in
set_option maxHeartbeats 400000 in
theorem sSame (a : Option Addr) (n cap : Nat) (l : List Int) (a' : Option Addr) (n' cap' : Nat) (l' : List Int) (w : World) (h : Ints .i64 w a n l) (h' : Ints .i64 w a' n' l') :
    Calls Try.prog 94 #[.slice a n cap, .slice a' n' cap'] w fun e w' => ∃ b, e = .returned (.bool b) ∧ Hid (b = decide (l = l')) ∧ ∃ q, w' = w.drewN q := by
  have HI := Lib.hid h
  have HI' := Lib.hid h'
  have HL := Lib.hid h.1
  have HL' := Lib.hid h'.1
  have hm := h.2.1
  unfold maxLen at hm
  clear h h'
  by_cases hn : n = n'
  · subst hn
    have hD0 : Hid (∀ i, i < 0 → l.getD i 0 = l'.getD i 0) := fun i hi => absurd hi (Nat.not_lt_zero i)
    go_enter Try.func94, Try.ntmps94
    go_wp2
    go_loopw [5] (fun i wr => ∃ k : Nat, k ≤ n ∧ i = .int .i64 k ∧ Hid (∀ i, i < k → l.getD i 0 = l'.getD i 0) ∧ ∃ q, wr = w.drewN q) (fun i _ => n - (intOf i).toNat)
    case atStart => exact ⟨0, Nat.zero_le _, rfl, hD0, 0, rfl⟩
    case round =>
      obtain ⟨k, hk, rfl, HD, q2, rfl⟩ := hrel
      clear hD0
      by_cases hlt : k < n
      · have hki : (k : Int) < (n : Int) := by omega
        obtain ⟨b, off, x, rfl, hd, hx, c1⟩ := HI.out.at k hlt
        obtain ⟨b', off', y, rfl, hd', hy, c2⟩ := HI'.out.at k hlt
        have HX := Lib.hid hx
        have HY := Lib.hid hy
        clear hx hy hd hd'
        by_cases e : x = y
        · have HD2 : Hid (∀ i, i < k + 1 → l.getD i 0 = l'.getD i 0) := fun i hi => by
            by_cases ei : i = k
            · subst ei; rw [← HX.out, ← HY.out, e]
            · exact HD.out i (by omega)
          subst e
          go_wp2
          go_quiet (fail)
          go_wp2
          go_roundw
          case rel => exact ⟨k + 1, by omega, by go_num, HD2, _, rfl⟩
          case measure => simp [intOf]; omega
        · have e2 : (x == y) = false := by simpa using e
          have e3 : (x != y) = true := by simpa using e
          have HF : Hid (l ≠ l') := fun he => e (by rw [HX.out, HY.out, he])
          go_wp2
          go_quiet (fail)
          go_wp2
          go_ret
          exact ⟨_, rfl, (decide_eq_false HF.out).symm, _, World.drewN_drewN _ _ _⟩
      · obtain rfl : k = n := by omega
        have HF : Hid (l = l') := by
          show l = l'
          apply List.ext_getElem
          · rw [HL.out, HL'.out]
          · intro i h1 h2
            have := HD.out i (by have := HL.out; omega)
            simpa [h1, h2] using this
        go_wp2
        go_ret
        exact ⟨_, rfl, (decide_eq_true HF.out).symm, _, rfl⟩
  · have e2 : (n == n') = false := by simpa using hn
    have e3 : ((n : Int) != (n' : Int)) = true := by simp; omega
    have HF : Hid (l ≠ l') := fun he => hn (by rw [← HL.out, ← HL'.out, he])
    go_enter Try.func94, Try.ntmps94
    go_wp2
    go_ret
    exact ⟨_, rfl, (decide_eq_false HF.out).symm, 0, rfl⟩


end Go.Proofs.Ytcofjjipjcekjab.V

namespace Go.Proofs.Ytcofjjipjcekjab
namespace M
theorem gap_at {l r : List Int} {i : Nat} (hi : i < l.length) (hj : i < r.length) : gapI (l.drop i) (r.drop i) = if l.getD i 0 ≠ -1000000000000000 ∧ r.getD i 0 ≠ -1000000000000000 then r.getD i 0 - l.getD i 0 else gapI (l.drop (i + 1)) (r.drop (i + 1)) := by
  rw [List.drop_eq_getElem_cons hi, List.drop_eq_getElem_cons hj]
  simp [gapI, List.getD_eq_getElem?_getD, hi, hj]
theorem gap_end {l r : List Int} : gapI (l.drop l.length) r = 0 := by
  rw [List.drop_length]; cases r <;> rfl
end M
namespace V
set_option maxRecDepth 100000
open Go.RowKit
set_option maxRecDepth 100000 in
set_option maxHeartbeats 1000000 in
theorem sGap (a : Option Addr) (n cap : Nat) (l : List Int) (a' : Option Addr) (cap' : Nat) (r : List Int) (w : World) (h : Ints .i64 w a n l) (h' : Ints .i64 w a' n r) (hn : n ≤ 1000) (hl : M.Vals l) (hr : M.Vals r) :
    Calls Try.prog 108 #[.slice a n cap, .slice a' n cap'] w fun e w' => ∃ b, e = .returned (.tuple #[.int .i64 (M.gapI l r), .bool b]) ∧ Hid (b = M.gapB l r) ∧ Below w.heap.size w w' := by
  have HI := Lib.hid h
  have HI' := Lib.hid h'
  have hbd := M.gapI_bd (x := l) (y := r) (by rw [h.1, h'.1]) hl hr
  have HW : Hid (∀ k, k < n → Wid (l.getD k 0)) := fun k hk => wid_val (hl k (by rw [h.1]; exact hk))
  have HB1 : Hid (∀ k, k < n → -1000000000000000 ≤ l.getD k 0 ∧ l.getD k 0 ≤ 1000000) := fun k hk => by have := M.isVal_t (hl k (by rw [h.1]; exact hk)); omega
  have HB2 : Hid (∀ k, k < n → -1000000000000000 ≤ r.getD k 0 ∧ r.getD k 0 ≤ 1000000) := fun k hk => by have := M.isVal_t (hr k (by rw [h'.1]; exact hk)); omega
  have HAt : Hid (∀ k, k < n → M.gapI (l.drop k) (r.drop k) = if l.getD k 0 ≠ -1000000000000000 ∧ r.getD k 0 ≠ -1000000000000000 then r.getD k 0 - l.getD k 0 else M.gapI (l.drop (k + 1)) (r.drop (k + 1))) := fun k hk => M.gap_at (by rw [h.1]; exact hk) (by rw [h'.1]; exact hk)
  have HEn : Hid (M.gapI (l.drop n) (r.drop n) = 0) := by have := M.gap_end (l := l) (r := r.drop n); rw [h.1] at this; exact this
  obtain ⟨G, hG⟩ : ∃ G, G = M.gapI l r := ⟨_, rfl⟩
  have HGB : Hid (decide (M.shvL l G = r) = M.gapB l r) := by rw [hG]; exact Lib.hid rfl
  have H0 : Hid (M.gapI (l.drop 0) (r.drop 0) = G) := by rw [hG]; exact Lib.hid rfl
  rw [← hG] at hbd ⊢
  clear h h' hl hr hG
  go_enter Try.func108, Try.ntmps108
  go_wp2
  go_loopw [6, 7] (fun gv kv wr => ∃ k : Nat, k ≤ n ∧ kv = .int .i64 k ∧ gv = .int .i64 0 ∧ wr = w ∧ Hid (M.gapI (l.drop k) (r.drop k) = G)) (fun _ kv _ => n - (intOf kv).toNat)
  case atStart => exact ⟨0, Nat.zero_le _, rfl, rfl, rfl, H0⟩
  case round =>
    obtain ⟨k, hk, rfl, rfl, rfl, HK⟩ := hrel
    by_cases hlt : k < n
    · have hki : (k : Int) < (n : Int) := by omega
      obtain ⟨pb, po, x, rfl, -, hx, cx⟩ := HI.out.at k hlt
      obtain ⟨qb, qo, y, rfl, -, hy, cy⟩ := HI'.out.at k hlt
      have bx := HB1.out k hlt
      have by' := HB2.out k hlt
      have hat := HK.out.symm.trans (HAt.out k hlt)
      rw [← hx] at bx hat
      rw [← hy] at by' hat
      clear hx hy
      by_cases q : x ≠ -1000000000000000 ∧ y ≠ -1000000000000000
      · rw [if_pos q] at hat
        obtain ⟨q1, q2⟩ := q
        subst hat
        have hwr : IntKind.i64.wrap (y - x) = y - x := IntWalk.i64_in _ (by omega)
        have HIr := HI
        have HIr' := HI'
        go_wp2
        go_quiet (fail)
        go_wp2_with fail
        refine (sShift7 _ n cap l (y - x) _ (HI.out.below (below_drewN (Below.refl _ _) nq)) hn HW.out ⟨by omega, by omega⟩).mono ?_
        rintro e w1 ⟨b1, c1, rfl, ho, hb⟩
        have HO := Lib.hid ho
        have HB := Lib.hid ((below_drewN (Below.refl _ wr) nq).trans hb)
        clear ho hb
        go_wp2_with fail
        refine (sSame _ n c1 (M.shvL l (y - x)) _ n cap' r _ HO.out.ints' (HI'.out.below HB.out)).mono ?_
        rintro e w2 ⟨b, rfl, hbb, q3, rfl⟩
        have HBb := Lib.hid hbb
        clear hbb
        go_wp2
        go_ret2
        exact ⟨b, rfl, Lib.hid (HBb.out.out.trans HGB.out), below_drewN HB.out q3⟩
        all_goals (exfalso; rename_i h; simp [q1, q2] at h)
      · rw [if_neg q] at hat
        have HK2 := Lib.hid hat.symm
        clear hat
        by_cases q1 : x = -1000000000000000
        · clear q
          subst q1
          go_wp2
          go_roundw
          case rel => exact ⟨k + 1, by omega, by go_num, by first | rfl | trivial, by first | rfl | trivial, HK2⟩
          case measure => simp [intOf]; omega
        · have q2 : y = -1000000000000000 := by omega
          clear q
          subst q2
          go_wp2
          go_roundw
          case rel => exact ⟨k + 1, by omega, by go_num, by first | rfl | trivial, by first | rfl | trivial, HK2⟩
          case measure => simp [intOf]; omega
    · obtain rfl : k = n := by omega
      have e0 : G = 0 := HK.out.symm.trans HEn.out
      subst e0
      go_wp2_with fail
      refine (sShift7 _ k cap l 0 _ HI.out hn HW.out ⟨by omega, by omega⟩).mono ?_
      rintro e w1 ⟨b1, c1, rfl, ho, hb⟩
      have HO := Lib.hid ho
      have HB := Lib.hid hb
      clear ho hb
      go_wp2_with fail
      refine (sSame _ k c1 (M.shvL l 0) _ k cap' r _ HO.out.ints' (HI'.out.below HB.out)).mono ?_
      rintro e w2 ⟨b, rfl, hbb, q3, rfl⟩
      have HBb := Lib.hid hbb
      clear hbb
      go_wp2
      go_ret2
      exact ⟨b, rfl, Lib.hid (HBb.out.out.trans HGB.out), below_drewN HB.out q3⟩
set_option maxRecDepth 100000 in
set_option maxHeartbeats 4000000 in
theorem sFind (w0 : World) (a : Option Addr) (n cap L : Nat) (R F : List (List Int)) (p : Nat) (w : World) (hS : SerB w0 a n L R F) (h : IsSer w0 w p a n cap R F 0) (hok : M.okTo R F 0) :
    Calls Try.prog 66 #[.pointer (some ⟨p, 0, none⟩)] w fun e w' => ∃ s c g d : Int, M.fnd R F = (s, c, g, d) ∧ e = .returned (.tuple #[.int .i64 s, .int .i64 c, .int .i64 g, .int .i64 d]) ∧ Below w0.heap.size w0 w' ∧
      (d = 0 → ∃ i j k : Nat, s = i ∧ c = j ∧ 1 ≤ j ∧ i + j ≤ k ∧ i + j ≤ 100 ∧ M.okTo R F k ∧ IsSer w0 w' p a n cap R F k) := by
  have HS := Lib.hid hS
  have H0 := Lib.hid (IsSerG.start h)
  have HOk := Lib.hid hok
  have hn100 : n * L ≤ 1000 := by have := Nat.mul_le_mul hS.n2 hS.l2; omega
  have HLn : Hid (∀ k, M.okQ R F k = true → (M.sq7 R F k).flatten.length = n * L) := fun k hk => flat_rect (hS.sq hk).1
  have HVl : Hid (∀ k, M.okQ R F k = true → M.Vals (M.sq7 R F k).flatten) := fun k hk => M.flat_vals hk
  have HFn : Hid (M.out (M.okQ R F) (M.repQ R F) (M.grQ R F) 100 0 = M.fnd R F) := Lib.hid rfl
  have HGp : Hid (∀ k e, M.okQ R F k = true → M.okQ R F e = true → M.gapB (M.sq7 R F k).flatten (M.sq7 R F e).flatten = M.repQ R F k e ∧ (M.repQ R F k e = true → M.gapI (M.sq7 R F k).flatten (M.sq7 R F e).flatten = M.grQ R F k e)) := fun k e hk he => by
    have e1 := flat_rect (hS.sq hk).1
    have e2 := flat_rect (hS.sq he).1
    have hl : (M.sq7 R F k).flatten.length = (M.sq7 R F e).flatten.length := by rw [e1, e2]
    have hi := M.gapB_iff hl (M.flat_vals hk) (M.flat_vals he)
    constructor
    · unfold M.repQ
      by_cases q : M.nrm (M.sq7 R F k).flatten = M.nrm (M.sq7 R F e).flatten
      · rw [hi.2 q]; simp [q]
      · cases hg : M.gapB (M.sq7 R F k).flatten (M.sq7 R F e).flatten with
        | true => exact absurd (hi.1 hg) q
        | false => simp [q]
    · intro hq
      unfold M.repQ at hq
      exact (M.nrm_gap hl (M.flat_vals hk) (M.flat_vals he) (of_decide_eq_true hq)).1
  clear hS h hok
  go_enter Try.func66, Try.ntmps66
  go_wp2
  go_loopw [6] (fun kv wr => ∃ k k1 : Nat, k ≤ k1 ∧ k ≤ 100 ∧ kv = .int .i64 k ∧ Hid (M.okTo R F k1) ∧ Hid (IsSerG w0 wr p a n cap R F k1 none) ∧ Hid (M.out (M.okQ R F) (M.repQ R F) (M.grQ R F) (100 - k) k = M.fnd R F)) (fun kv _ => 100 - (intOf kv).toNat)
  case atStart => exact ⟨0, 0, by omega, by omega, rfl, HOk, H0, HFn⟩
  case round =>
    obtain ⟨k, k1, hkk, hk, rfl, HOkk, HI, HO⟩ := hrel
    obtain ⟨wo, rfl⟩ : ∃ x, x = wr := ⟨_, rfl⟩
    clear H0 HOk HFn
    by_cases hlt : k < 100
    · have hki : (k : Int) < 100 := by omega
      have HO2 : Hid (M.outI (M.okQ R F) (M.repQ R F) (M.grQ R F) k (k + 1) = M.fnd R F) := Lib.hid ((M.out_start hlt).symm.trans HO.out)
      clear HO
      go_wp2_with fail
      refine (sAt7G w0 a n cap L R F p k1 k none _ HS.out HI.out HOkk.out (by omega)).mono ?_
      rintro e1 w1 (⟨k2, hk2, hk3, -, hok2, -, ra, m, rc, rfl, hra, g, o, hig, hro⟩ | ⟨j, hj1, hj2, -⟩)
      · have hm : m = n * L := by rw [← hra.1]; exact HLn.out k (hok2 k hk2)
        subst hm
        have HOk2 := Lib.hid hok2
        have HIg := Lib.hid hig
        have HRo := Lib.hid hro
        clear hok2 hra hig hro HI HOkk
        go_wp2
        go_loopw [9] (fun ev wr => ∃ e k1 : Nat, 1 ≤ e ∧ k + e ≤ k1 + 1 ∧ k + e ≤ 101 ∧ ev = .int .i64 e ∧ Hid (M.okTo R F k1) ∧ Hid (IsSerG w0 wr p a n cap R F k1 (some (g, o))) ∧ Hid (M.outI (M.okQ R F) (M.repQ R F) (M.grQ R F) k (k + e) = M.fnd R F)) (fun ev _ => 101 - (intOf ev).toNat)
        case atStart => exact ⟨1, k2, by omega, by omega, by omega, rfl, HOk2, HIg, HO2⟩
        case round =>
          obtain ⟨e, k3, he0, he1, he2, rfl, HOk3, HI3, HOe⟩ := hrel
          obtain ⟨wi, rfl⟩ : ∃ x, x = wr := ⟨_, rfl⟩
          clear HOk2 HIg HO2
          by_cases hle : k + e ≤ 100
          · have hei : (k : Int) + (e : Int) ≤ 100 := by omega
            have hcast : ((k + e : Nat) : Int) = (k : Int) + (e : Int) := by omega
            go_wp2_with fail
            rw [← hcast]
            refine (sAt7G w0 a n cap L R F p k3 (k + e) (some (g, o)) _ HS.out HI3.out HOk3.out (by omega)).mono ?_
            rintro e1 w2 (⟨k4, hk4, hk5, -, hok4, hi4, rb, m2, rd, rfl, hrb, -⟩ | ⟨j, hj1, hj2, -, hbad, rfl, hb2⟩)
            · have hm2 : m2 = n * L := by rw [← hrb.1]; exact HLn.out (k + e) (hok4 _ hk4)
              subst hm2
              have hgu : w2.heap[g]? = some o := by
                obtain ⟨_, _, _, _, _, _, _, _, _, hgu⟩ := id hi4
                exact (hgu g o rfl).2.2
              obtain ⟨hgb, hgi⟩ := HGp.out k (k + e) (hok4 k (by omega)) (hok4 _ hk4)
              have HGb := Lib.hid hgb
              have HGi := Lib.hid hgi
              have HRa := Lib.hid (HRo.out w2 hgu)
              have HRb := Lib.hid hrb
              have HOk4 := Lib.hid hok4
              have HI4 := Lib.hid hi4
              clear hgb hgi hrb hok4 hi4 hgu
              go_wp2_with fail
              refine (sGap _ (n * L) _ _ _ _ _ _ HRa.out HRb.out hn100 (HVl.out k (HOk4.out k (by omega))) (HVl.out (k + e) (HOk4.out _ hk4))).mono ?_
              rintro e1 w3 ⟨b, rfl, hbb, hb3⟩
              have HBb := Lib.hid (hbb.out.trans HGb.out)
              have HI5 := Lib.hid (HI4.out.keep hb3)
              clear hbb hb3
              cases b with
              | true =>
                have hgr := HGi.out HBb.out.symm
                rw [hgr]
                have HFo : Hid (M.fnd R F = ((k : Int), ((k + e : Nat) : Int) - k, M.grQ R F k (k + e), 0)) := Lib.hid (HOe.out.symm.trans (M.outI_found hle (HOk4.out _ hk4) HBb.out.symm))
                go_wp2
                exact bodyPost_ret (v := .tuple #[.int .i64 k, .int .i64 e, .int .i64 (M.grQ R F k (k + e)), .int .i64 0]) (by simp [results, Try.results66, go_sem]) rfl ⟨k, e, M.grQ R F k (k + e), 0, by rw [HFo.out, hcast]; congr 2; omega, rfl, HI5.out.1, fun _ => ⟨k, e, k4, rfl, rfl, he0, hk4, hle, HOk4.out, HI5.out.ser⟩⟩
              | false =>
                go_wp2
                go_roundw
                case rel => exact ⟨e + 1, k4, by omega, by omega, by omega, by go_num, HOk4, HI5, Lib.hid ((M.outI_next hle (HOk4.out _ hk4) HBb.out.symm).symm.trans HOe.out)⟩
                case measure => simp [intOf]; omega
            · have HB2 := Lib.hid hb2
              have HBad := Lib.hid (show M.okQ R F j = false from hbad)
              clear hb2 hbad
              go_wp2
              exact bodyPost_ret (v := .tuple #[.int .i64 0, .int .i64 0, .int .i64 0, .int .i64 3]) (by simp [results, Try.results66, go_sem]) rfl ⟨0, 0, 0, 3, by have e : j = k + e := (by omega); subst e; exact HOe.out.symm.trans (M.outI_limit hle HBad.out), rfl, HB2.out, fun h => by omega⟩
          · have hei : ¬ ((k : Int) + (e : Int) ≤ 100) := by omega
            go_wp2
            go_roundw
            case rel => exact ⟨k + 1, k3, by omega, by omega, by go_num, HOk3, Lib.hid HI3.out.none, Lib.hid ((by rw [← M.outI_end hle hlt]; exact HOe.out))⟩
            case measure => simp [intOf]; omega
      · omega
    · go_wp2
      obtain rfl : k = 100 := by omega
      exact bodyPost_ret (v := .tuple #[.int .i64 0, .int .i64 0, .int .i64 0, .int .i64 4]) (by simp [results, Try.results66, go_sem]) rfl ⟨0, 0, 0, 4, HO.out.symm, rfl, HI.out.1, fun h => by omega⟩
end V
end Go.Proofs.Ytcofjjipjcekjab

namespace Go.Proofs.Ytcofjjipjcekjab
namespace M
def prRes (R : List (List Int)) : Int × Int × Int × Int := if sqB R then fnd R (unitM R.length) else (0, 0, 0, 1)
theorem wid_unit {n : Nat} (h : 1 ≤ n) : wid (unitM n) = n := mk_wid _ _ _ (by omega)
end M
namespace V
set_option maxRecDepth 100000
open Go.RowKit
def QPost (r : Int × Int × Int × Int) (w : World) (e : Ending) (w' : World) : Prop :=
  e = .returned (.tuple #[.int .i64 r.1, .int .i64 r.2.1, .int .i64 r.2.2.1, .int .i64 r.2.2.2]) ∧ Below w.heap.size w w'
theorem serB_unit {w : World} {a : Option Addr} {n : Nat} {R : List (List Int)} (h : Mat w a n R) (hs : M.sqB R = true) : SerB w a n n R (M.unitM n) := by
  obtain ⟨hr, n1, n2, hsm⟩ := sq_parts7 h hs
  exact ⟨h, hr, n1, n2, hsm, by unfold M.unitM; simp, M.wid_unit n1, n1, n2⟩
theorem okTo_unit {R : List (List Int)} {n : Nat} (n1 : 1 ≤ n) (n2 : n ≤ 10) : M.okTo R (M.unitM n) 0 := fun j hj => by
  obtain rfl : j = 0 := by omega
  exact M.unitM_ok n1 n2
theorem unit_vals {n : Nat} (n1 : 1 ≤ n) (n2 : n ≤ 10) : ∀ i j, i < n → j < n → M.isVal (M.ent (M.unitM n) i j) = true := fun i j hi hj =>
  (M.isMat_t (M.unitM_ok n1 n2)).2.2.2.2.2 i (by unfold M.unitM; simpa using hi) j (by rw [M.wid_unit n1]; exact hj)
theorem unit_rect {n : Nat} : Rect (M.unitM n) n n := rect_mk _ _ _
set_option maxRecDepth 100000 in
set_option maxHeartbeats 4000000 in
theorem sPowersRepeat (a : Option Addr) (n cap : Nat) (R : List (List Int)) (w : World) (h : Mat w a n R) : Calls Try.prog 40 #[.slice a n cap] w (QPost (M.prRes R) w) := by
  have HA := Lib.hid h
  by_cases hs : M.sqB R = true
  · have HS := Lib.hid hs
    have hRn : R.length = n := h.1
    obtain ⟨-, n1, n2, -⟩ := sq_parts7 h hs
    have HE : Hid (M.prRes R = M.fnd R (M.unitM n)) := by show _ = _; unfold M.prRes; rw [if_pos hs, hRn]
    clear h hs hRn
    go_enter Try.func40, Try.ntmps40
    go_wp2_with (go_at_call 85; refine (sSquare_b _ _ _ R _ true HS.out HA.out).mono ?_; rintro e w' ⟨rfl, q, rfl⟩)
    refine (sUnit n _ (by omega)).mono ?_
    rintro e w2 ⟨b2, c2, rfl, ho, hb⟩
    have HO2 := Lib.hid ho
    have HB2 := Lib.hid ((below_drewN (Below.refl w.heap.size w) q).trans hb)
    clear ho hb
    go_wp2_with fail
    refine (sStart7 w a n cap n R (M.unitM n) b2 c2 _ HB2.out HO2.out unit_rect n2 n1 n2).mono ?_
    rintro e w3 ⟨p, rfl, hs⟩
    have HS3 := Lib.hid hs
    clear hs
    go_wp2_with fail
    refine (sFind w a n cap n R (M.unitM n) p _ (serB_unit HA.out HS.out) HS3.out (okTo_unit n1 n2)).mono ?_
    rintro e w4 ⟨s, c, g, d, hf, rfl, hb, -⟩
    have HF := Lib.hid (HE.out.trans hf)
    have HB4 := Lib.hid hb
    clear hf hb
    go_wp2
    exact bodyPost_ret (v := .tuple #[.int .i64 s, .int .i64 c, .int .i64 g, .int .i64 d]) (by simp [results, Try.results40, go_sem]) rfl ⟨by rw [HF.out], HB4.out⟩
  · have hs' : M.sqB R = false := by simpa using hs
    have HS := Lib.hid hs'
    have HE : Hid (M.prRes R = (0, 0, 0, 1)) := by show _ = _; unfold M.prRes; rw [if_neg hs]
    clear h hs hs'
    go_enter Try.func40, Try.ntmps40
    go_wp2_with (go_at_call 85; refine (sSquare_b _ _ _ R _ false HS.out HA.out).mono ?_; rintro e w' ⟨rfl, q, rfl⟩)
    go_wp2
    exact bodyPost_ret (v := .tuple #[.int .i64 0, .int .i64 0, .int .i64 0, .int .i64 1]) (by simp [results, Try.results40, go_sem]) rfl ⟨by rw [HE.out], below_drewN (Below.refl _ _) q⟩
theorem powersOf (a : Option Addr) (n cap : Nat) (R : List (List Int)) (w : World) (h : Mat w a n R) (n1 : 1 ≤ n) (n2 : n ≤ 10) :
    Calls Try.prog 80 #[.slice a n cap] w fun e w' => ∃ p, e = .returned (.pointer (some ⟨p, 0, none⟩)) ∧ IsSeq w w' p a n cap R (M.unitM n) 0 none := by
  go_enter Try.func80, Try.ntmps80
  go_wp2_with fail
  refine (unitOf n _ n1 n2).mono ?_
  rintro e w2 ⟨b2, c2, rfl, ho, hb⟩
  have HO2 := Lib.hid ho
  have HB2 := Lib.hid hb
  clear ho hb
  go_wp2_with fail
  refine (sequenceFrom w a n cap n R (M.unitM n) b2 c2 _ HB2.out HO2.out unit_rect n1 n2 n1 n2 (unit_vals n1 n2)).mono ?_
  rintro e w3 ⟨p, rfl, hs⟩
  have HS3 := Lib.hid hs
  clear hs
  go_wp2
  go_ret
  exact ⟨p, by simp, HS3.out⟩
set_option maxRecDepth 100000 in
set_option maxHeartbeats 4000000 in
theorem powersRepeat (a : Option Addr) (n cap : Nat) (R : List (List Int)) (w : World) (h : Mat w a n R) : Calls Try.prog 41 #[.slice a n cap] w (QPost (M.prRes R) w) := by
  have HA := Lib.hid h
  by_cases hs : M.sqB R = true
  · have HS := Lib.hid hs
    have hRn : R.length = n := h.1
    obtain ⟨-, n1, n2, -⟩ := sq_parts7 h hs
    have HE : Hid (M.prRes R = M.fnd R (M.unitM n)) := by show _ = _; unfold M.prRes; rw [if_pos hs, hRn]
    clear h hs hRn
    go_enter Try.func41, Try.ntmps41
    go_wp2_with (go_at_call 78; refine (isSquare_b _ _ _ R _ true HS.out HA.out).mono ?_; rintro e w' ⟨rfl, rfl⟩)
    refine (powersOf _ _ _ R _ HA.out n1 n2).mono ?_
    rintro e w2 ⟨p, rfl, hs⟩
    have HS3 := Lib.hid hs
    clear hs
    go_wp2_with fail
    refine (firstRepeat w a n cap n R (M.unitM n) p _ (serB_unit HA.out HS.out) HS3.out (okTo_unit n1 n2)).mono ?_
    rintro e w4 ⟨s, c, g, d, hf, rfl, hb, -⟩
    have HF := Lib.hid (HE.out.trans hf)
    have HB4 := Lib.hid hb
    clear hf hb
    go_wp2
    go_quiet (fail)
    go_wp2
    exact bodyPost_ret (v := .tuple #[.int .i64 s, .int .i64 c, .int .i64 g, .int .i64 d]) (by simp [results, Try.results41, go_sem]) rfl ⟨by rw [HF.out], below_drewN (HB4.out.trans ((b_alloc w4 _).mono HB4.out.size)) _⟩
  · have hs' : M.sqB R = false := by simpa using hs
    have HS := Lib.hid hs'
    have HE : Hid (M.prRes R = (0, 0, 0, 1)) := by show _ = _; unfold M.prRes; rw [if_neg hs]
    clear h hs hs'
    go_enter Try.func41, Try.ntmps41
    go_wp2_with (go_at_call 78; refine (isSquare_b _ _ _ R _ false HS.out HA.out).mono ?_; rintro e w' ⟨rfl, rfl⟩)
    go_wp2
    exact bodyPost_ret (v := .tuple #[.int .i64 0, .int .i64 0, .int .i64 0, .int .i64 1]) (by simp [results, Try.results41, go_sem]) rfl ⟨by rw [HE.out], Below.refl _ _⟩
end V
end Go.Proofs.Ytcofjjipjcekjab

namespace Go.Proofs.Ytcofjjipjcekjab.V
open Go.RowKit

set_option maxRecDepth 100000 in
set_option maxHeartbeats 400000 in
theorem eqInts (a : Option Addr) (n cap : Nat) (l : List Int) (a' : Option Addr) (n' cap' : Nat) (l' : List Int) (w : World) (h : Ints .i64 w a n l) (h' : Ints .i64 w a' n' l') (heq : l = l') :
    Calls Try.prog 36 #[.slice a n cap, .slice a' n' cap'] w fun e w' => e = .returned (.bool true) ∧ ∃ q, w' = w.drewN q := by
  subst heq
  obtain ⟨hl, hm, hr⟩ := h
  obtain ⟨hl', hm', hr'⟩ := h'
  obtain rfl : n = n' := by omega
  unfold maxLen at hm
  clear hm'
  have HL := Lib.hid hl
  clear hl hl'
  go_enter Try.func36, Try.ntmps36
  go_wp2
  go_loopw [5] (fun i wr => ∃ k : Nat, k ≤ n ∧ i = .int .i64 k ∧ ∃ q, wr = w.drewN q) (fun i _ => n - (intOf i).toNat)
  case atStart => exact ⟨0, Nat.zero_le _, rfl, 0, rfl⟩
  case round =>
    obtain ⟨k, hk, rfl, q, rfl⟩ := hrel
    by_cases hlt : k < n
    · rcases hr with h0 | ⟨b, off, rfl, hbl, hc⟩
      · omega
      rcases hr' with h0 | ⟨b', off', rfl, hbl', hc'⟩
      · omega
      have hck := hc k hlt
      have hck' := hc' k hlt
      obtain ⟨x, hx⟩ : ∃ x, x = l.getD k 0 := ⟨_, rfl⟩
      rw [← hx] at hck hck'
      clear hc hx hc'
      have hki : (k : Int) < (n : Int) := by omega
      go_wp2
      go_quiet (fail)
      go_wp2
      go_roundw
      case rel => exact ⟨k + 1, by omega, by go_num, _, rfl⟩
      case measure => simp [intOf]; omega
    · have hkn : k = n := by omega
      subst hkn
      clear hr hr'
      go_wp2
      go_ret
      exact ⟨rfl, q, rfl⟩

set_option maxRecDepth 100000 in
set_option maxHeartbeats 400000 in
theorem copyInts (a : Option Addr) (n cap : Nat) (l : List Int) (w : World) (h : Ints .i64 w a n l) (hs : n ≤ 1048576) :
    Calls Try.prog 34 #[.slice a n cap] w fun e w' => e = .returned (.slice (some ⟨w.heap.size, 0, none⟩) n n) ∧ Own w' w.heap.size (.slice (some ⟨w.heap.size, 0, none⟩) n n) l ∧ Below w.heap.size w w' := by
  obtain ⟨hl, hm, hr⟩ := h
  have hm2 := hm
  unfold maxLen at hm
  have HL := Lib.hid hl
  clear hl
  have hmk := run_make_row' (P := Try.prog) 25 2 (.int .i64 0) 8 Try.underlying25 info64 rfl .i64 .i64 n (by omega) (by omega)
  go_enter Try.func34, Try.ntmps34
  go_wp2
  clear hmk
  go_loopw [4] (fun i wr => ∃ k : Nat, k ≤ n ∧ i = .int .i64 k ∧ Own wr w.heap.size (.slice (some ⟨w.heap.size, 0, none⟩) n n) ((List.range n).map fun j => if j < k then l.getD j 0 else 0) ∧ Below w.heap.size w wr) (fun i _ => n - (intOf i).toNat)
  case atStart => exact ⟨0, Nat.zero_le _, rfl, by simpa using own_made w _ n (Nat.le_refl _) hm2, b_alloc _ _⟩
  case round =>
    obtain ⟨k, hk, rfl, hrow, hb⟩ := hrel
    by_cases hlt : k < n
    · rcases hr with h0 | ⟨b, off, rfl, hbl, hc⟩
      · omega
      have hck := hc k hlt
      obtain ⟨x, hx⟩ : ∃ x, x = l.getD k 0 := ⟨_, rfl⟩
      rw [← hx] at hck
      have hck' : wr.cell? ⟨b, off + k, none⟩ = some (.int .i64 x) := by rw [hb.cell (p := ⟨b, off + k, none⟩) hbl]; exact hck
      have hst : ∃ v, wr.cell? ⟨w.heap.size, k, none⟩ = some v := ⟨_, hrow.cellAt k hlt⟩
      obtain ⟨v, hst⟩ := hst
      have hfz := hrow.frozenAt k
      have HR := Lib.hid hrow
      have HB := Lib.hid hb
      have HX := Lib.hid hx
      clear hc hx hck hrow hb
      go_wp2
      go_roundw
      case rel =>
        refine ⟨k + 1, by omega, by go_num, ?_, HB.out.setCell (Nat.le_refl _) _⟩
        have := Own.set HR.out k x
        rw [M.map_set] at this
        refine (congrArg (Own _ _ _) (List.map_congr_left fun j hj => ?_)).mp this
        by_cases e : j = k
        · subst e; rw [if_pos rfl, if_pos (by omega), HX.out]
        · rw [if_neg e]
          by_cases e2 : j < k
          · rw [if_pos e2, if_pos (by omega)]
          · rw [if_neg e2, if_neg (by omega)]
      case measure => simp [intOf]; omega
    · have hkn : k = n := by omega
      subst hkn
      have HR := Lib.hid hrow
      have HB := Lib.hid hb
      clear hr hrow hb
      go_wp2
      go_ret
      refine ⟨rfl, ?_, HB.out⟩
      refine (congrArg (Own _ _ _) ?_).mp HR.out
      have hl := HL.out
      apply List.ext_getElem
      · simp [hl]
      · intro i h1 h2
        simp [show i < k by omega, h2]

/-- What is left of a size. -/
def SzPost (n : Nat) (left : Int) (w : World) (e : Ending) (w' : World) : Prop := ∃ x : Int, e = .returned (.int .i64 x) ∧ (x < 0 ∨ (0 ≤ x ∧ x + n = left)) ∧ w = w'

set_option maxRecDepth 100000 in
set_option maxHeartbeats 400000 in
theorem szInts (a : Option Addr) (n cap : Nat) (left : Int) (w : World) (hm : n ≤ maxLen) (h1 : 0 ≤ left) (h2 : left ≤ 1048576) :
    Calls Try.prog 93 #[.slice a n cap, .int .i64 left] w (SzPost n left w) := by
  unfold maxLen at hm
  by_cases hlt : left < n
  · go_enter Try.func93, Try.ntmps93
    go_wp2
    go_ret
    exact ⟨_, rfl, .inl (by omega), rfl⟩
  · go_enter Try.func93, Try.ntmps93
    go_wp2
    go_ret
    exact ⟨_, rfl, .inr ⟨by omega, by omega⟩, rfl⟩

/-- What is left of a size: nothing, or all the sizes fit. -/
def SzMPost (n : Nat) (R : List (List Int)) (left : Int) (w : World) (e : Ending) (w' : World) : Prop := ∃ x : Int, e = .returned (.int .i64 x) ∧ (x < 0 ∨ (0 ≤ x ∧ x ≤ left ∧ (n : Int) ≤ left ∧ (M.pre R R.length : Int) ≤ left)) ∧ w = w'

set_option maxRecDepth 100000 in
set_option maxHeartbeats 400000 in
theorem szIntss (a : Option Addr) (n cap : Nat) (R : List (List Int)) (left : Int) (w : World) (h : Mat w a n R) (h1 : 0 ≤ left) (h2 : left ≤ 1048576) :
    Calls Try.prog 32 #[.slice a n cap, .int .i64 left] w (SzMPost n R left w) := by
  have HM := Lib.hid h
  obtain ⟨hl, hm, -⟩ := h
  unfold maxLen at hm
  have HL := Lib.hid hl
  clear hl
  by_cases hlt : left < n
  · go_enter Try.func32, Try.ntmps32
    go_wp2
    go_ret
    exact ⟨_, rfl, .inl (by omega), rfl⟩
  · go_enter Try.func32, Try.ntmps32
    go_wp2
    go_loop [1, 5] (fun x i => ∃ (k : Nat) (y : Int), k ≤ n ∧ i = .int .i64 k ∧ x = .int .i64 y ∧ 0 ≤ y ∧ (M.pre R k : Int) + n + y ≤ left) (fun _ i => n - (intOf i).toNat)
    case atStart => exact ⟨0, left - n, Nat.zero_le _, rfl, rfl, by omega, by rw [M.pre_zero]; omega⟩
    case round =>
      obtain ⟨k, y, hk, rfl, rfl, hy, hp⟩ := hrel
      by_cases hkn : k < n
      · obtain ⟨b, off, ra, rc, L, l, rfl, hbl, hll, hc, hI⟩ := HM.out.at k hkn
        have hps := M.pre_succ R k (by have := HL.out; omega)
        have hLl : L = l.length := hI.1.symm
        rw [← hll, ← hLl] at hps
        have HP := Lib.hid hps
        have hLm := hI.2.1
        clear hI hll hps hLl
        go_wp2_with fail
        refine (szInts _ _ _ _ _ hLm hy (by omega)).mono ?_
        rintro e w' ⟨z, rfl, hz, rfl⟩
        rcases hz with hz | ⟨hz1, hz2⟩
        · go_wp2
          go_ret
          exact ⟨_, rfl, .inl (by omega), rfl⟩
        · go_wp2
          go_round
          case rel => exact ⟨k + 1, z, by omega, by go_num, rfl, hz1, by rw [HP.out]; omega⟩
          case measure => simp [intOf]; omega
      · obtain rfl : k = n := by omega
        go_wp2
        go_ret
        exact ⟨_, rfl, .inr ⟨hy, by omega, by omega, by rw [HL.out]; omega⟩, rfl⟩

end Go.Proofs.Ytcofjjipjcekjab.V
