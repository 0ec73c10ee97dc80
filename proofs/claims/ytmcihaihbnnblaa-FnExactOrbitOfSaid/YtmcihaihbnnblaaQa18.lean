/- Texts laid together: OwnP, Ser. -/
import Derived.Test.YtmcihaihbnnblaaQa3
import Derived.Test.YtmcihaihbnnblaaQa5
import Derived.Deep.AppendLies
import Derived.Test.YtmcihaihbnnblaaQa17
import Derived.Test.YtmcihaihbnnblaaQa6
import Derived.Test.YtmcihaihbnnblaaQa11
import Derived.Deep.RegionLaw
set_option linter.unusedSimpArgs false
set_option linter.unusedVariables false
set_option linter.unusedSectionVars false
namespace Go.Proofs.Ytmcihaihbnnblaa.V
open Go.RowKit
/-- An owned matrix all of whose blocks have the property P. -/
def OwnP (w : World) (B : Nat) (P : Nat → Prop) (v : Value) (R : List (List Int)) : Prop :=
  ∃ V, OwnV w B v R V ∧ (∀ k, v.ownBlock = some k → P k) ∧ ∀ i, i < R.length → ∀ k, (V.getD i (.slice none 0 0)).ownBlock = some k → P k
theorem OwnP.toM {w : World} {B : Nat} {P : Nat → Prop} {v : Value} {R : List (List Int)} (h : OwnP w B P v R) : OwnM w B v R := by
  obtain ⟨V, h, -⟩ := h
  exact ⟨V, h⟩
theorem OwnM.toP {w : World} {B : Nat} {P : Nat → Prop} {v : Value} {R : List (List Int)} (h : OwnM w B v R) (hP : ∀ k, B ≤ k → k < w.heap.size → P k) : OwnP w B P v R := by
  obtain ⟨V, h⟩ := h
  refine ⟨V, h, fun k hk => ?_, fun i hi k hk => ?_⟩
  · have := own_lt h.2.1 hk; exact hP k this.1 this.2
  · have := own_lt (h.2.2.1 i hi) hk; exact hP k this.1 this.2
theorem OwnP.imp {w : World} {B : Nat} {P Q : Nat → Prop} {v : Value} {R : List (List Int)} (h : OwnP w B P v R) (hP : ∀ k, P k → Q k) : OwnP w B Q v R := by
  obtain ⟨V, h, h1, h2⟩ := h
  exact ⟨V, h, fun k hk => hP k (h1 k hk), fun i hi k hk => hP k (h2 i hi k hk)⟩
theorem OwnP.mono {w : World} {B B' : Nat} {P : Nat → Prop} {v : Value} {R : List (List Int)} (h : OwnP w B P v R) (hb : B' ≤ B) : OwnP w B' P v R := by
  obtain ⟨V, ⟨h1, h2, h3, h4, h5⟩, k1, k2⟩ := h
  exact ⟨V, ⟨h1, World.ownsRow.mono h2 hb, fun i hi => (h3 i hi).mono hb, h4, h5⟩, k1, k2⟩
theorem OwnP.keep {w w' : World} {B : Nat} {P : Nat → Prop} {v : Value} {R : List (List Int)} (h : OwnP w B P v R) (hk : ∀ k, P k → B ≤ k → k < w.heap.size → w'.heap[k]? = w.heap[k]?) : OwnP w' B P v R := by
  obtain ⟨V, ⟨h1, h2, h3, h4, h5⟩, k1, k2⟩ := h
  exact ⟨V, ⟨h1, ownsRow_keep h2 (fun k hv => hk k (k1 k hv) (own_lt h2 hv).1 (own_lt h2 hv).2), fun i hi => ownsRow_keep (h3 i hi) (fun k hv => hk k (k2 i hi k hv) (own_lt (h3 i hi) hv).1 (own_lt (h3 i hi) hv).2), h4, h5⟩, k1, k2⟩
theorem OwnP.below {w w' : World} {B : Nat} {P : Nat → Prop} {v : Value} {R : List (List Int)} (h : OwnP w B P v R) (hb : Below w.heap.size w w') : OwnP w' B P v R :=
  h.keep (fun k _ _ h2 => hb.block k h2)
theorem OwnV.at {w : World} {B n cap : Nat} {a : Option Addr} {R : List (List Int)} {V : List Value} (h : OwnV w B (.slice a n cap) R V) (i j : Nat) (hi : i < n) (hj : j < (R.getD i []).length) :
    ∃ g q L c x, a = some ⟨g, 0, none⟩ ∧ B ≤ g ∧ B ≤ q ∧ L = (R.getD i []).length ∧ x = (R.getD i []).getD j 0 ∧ w.cell? ⟨g, i, none⟩ = some (.slice (some ⟨q, 0, none⟩) L c) ∧ w.cell? ⟨q, j, none⟩ = some (.int .i64 x) ∧ w.frozen? ⟨q, j, none⟩ = false ∧
      (V.getD i (.slice none 0 0)).ownBlock = some q ∧ ∀ y, OwnV (w.setCell ⟨q, j, none⟩ (.int .i64 y)) B (.slice a n cap) (R.set i ((R.getD i []).set j y)) V := by
  obtain ⟨h1, h2, h3, h4, h5⟩ := h
  obtain ⟨a', c', hv, hc, hm, hg⟩ := own_form h2
  injection hv with e1 e2 e3
  subst e1 e2 e3
  obtain ⟨g, rfl, hBg, hlt⟩ := hg (by omega)
  have hrow := h3 i hi
  obtain ⟨ra, rc, hrv, hrc, hrm, hrg⟩ := own_form hrow
  obtain ⟨q, rfl, hBq, hqlt⟩ := hrg (by omega)
  have hcell := World.ownsRow.cellAt h2 i (by omega)
  have hVi : V[i]? = some (V.getD i (.slice none 0 0)) := by simp [h1, hi]
  have hrow' := hrow
  rw [hrv] at hrow'
  have hcell2 := World.ownsRow.cellAt hrow' j (by omega)
  refine ⟨g, q, _, rc, _, rfl, hBg, hBq, rfl, rfl, ?_, ?_, World.ownsRow.frozenAt hrow' j, by rw [hrv]; rfl, fun y => ?_⟩
  · rw [hcell, hVi, hrv]
  · rw [hcell2]
    generalize R.getD i [] = l at hj
    simp [hj]
  · have hqg : q ≠ g := fun e => h4 i hi q (by rw [hrv]; rfl) (by rw [e]; rfl)
    refine ⟨by simpa using h1, ?_, ?_, ?_, ?_⟩
    · rw [List.length_set]
      exact ownsRow_keep h2 (fun k hv => Below.heap_setCell _ _ _ _ (by
        simp only [Value.ownBlock, Option.some.injEq] at hv; show k ≠ q; omega))
    · intro t ht
      simp only [List.length_set] at ht
      rw [getD_set _ _ _ _ _ (by omega)]
      by_cases e : t = i
      · subst e
        rw [if_pos rfl, hrv]
        exact Own.set hrow' j y
      · rw [if_neg e]
        refine ownsRow_keep (h3 t ht) (fun k hv => Below.heap_setCell _ _ _ _ ?_)
        show k ≠ q
        intro e2
        subst e2
        exact h5 t i ht hi e k hv (by rw [hrv]; rfl)
    · intro t ht
      simp only [List.length_set] at ht
      exact h4 t ht
    · intro t s ht hs
      simp only [List.length_set] at ht hs
      exact h5 t s ht hs

/-- What is needed to read and to write the entry at i, j. -/
theorem OwnP.at {w : World} {B n cap : Nat} {P : Nat → Prop} {a : Option Addr} {R : List (List Int)} (h : OwnP w B P (.slice a n cap) R) (i j : Nat) (hi : i < n) (hj : j < (R.getD i []).length) :
    ∃ g q L c x, a = some ⟨g, 0, none⟩ ∧ B ≤ g ∧ B ≤ q ∧ P q ∧ L = (R.getD i []).length ∧ x = (R.getD i []).getD j 0 ∧ w.cell? ⟨g, i, none⟩ = some (.slice (some ⟨q, 0, none⟩) L c) ∧ w.cell? ⟨q, j, none⟩ = some (.int .i64 x) ∧ w.frozen? ⟨q, j, none⟩ = false ∧
      ∀ y, OwnP (w.setCell ⟨q, j, none⟩ (.int .i64 y)) B P (.slice a n cap) (R.set i ((R.getD i []).set j y)) := by
  have hn := (OwnP.toM h).len
  obtain ⟨V, h, k1, k2⟩ := h
  obtain ⟨g, q, L, c, x, e1, e2, e3, e4, e5, c1, c2, f, hq, ho⟩ := h.at i j hi hj
  exact ⟨g, q, L, c, x, e1, e2, e3, k2 i (by omega) q hq, e4, e5, c1, c2, f, fun y => ⟨V, ho y, k1, fun i hi => k2 i (by simpa using hi)⟩⟩
theorem OwnV.snocV {w w1 w2 : World} {B q : Nat} {v v' rv : Value} {R : List (List Int)} {V : List Value} {l : List Int} (h : OwnV w B v R V) (hb : Below w.heap.size w w1) (hB : B ≤ w.heap.size) (ho : Own w1 w.heap.size rv l)
    (hw2 : w2.ownsRow B 23 1 v' (R.length + 1) (V ++ [rv])) (hg : ∀ k, k < w1.heap.size → v.ownBlock ≠ some k → w2.heap[k]? = w1.heap[k]?)
    (hvb : v'.ownBlock = v.ownBlock ∨ v'.ownBlock = some q) (hq : w1.heap.size ≤ q) : OwnV w2 B v' (R ++ [l]) (V ++ [rv]) := by
  obtain ⟨h1, h2, h3, h4, h5⟩ := h
  have eV : ∀ j, j < R.length → (V ++ [rv]).getD j (.slice none 0 0) = V.getD j (.slice none 0 0) := fun j hj => by
    simp [List.getD_eq_getElem?_getD, List.getElem?_append_left, h1, hj]
  have eV1 : (V ++ [rv]).getD R.length (.slice none 0 0) = rv := by
    simp [List.getD_eq_getElem?_getD, ← h1]
  have eR : ∀ j, j < R.length → (R ++ [l]).getD j [] = R.getD j [] := fun j hj => by
    simp [List.getD_eq_getElem?_getD, List.getElem?_append_left, hj]
  have eR1 : (R ++ [l]).getD R.length [] = l := by
    simp [List.getD_eq_getElem?_getD]
  have hold : ∀ j, j < R.length → ∀ k, (V.getD j (.slice none 0 0)).ownBlock = some k → k < w.heap.size := fun j hj k hk => (own_lt (h3 j hj) hk).2
  have hvn : ∀ k, k < w1.heap.size → v.ownBlock ≠ some k → v'.ownBlock ≠ some k := fun k hk hne => by
    rcases hvb with e | e
    · rw [e]; exact hne
    · rw [e]; intro e2; simp only [Option.some.injEq] at e2; omega
  have hvold : ∀ k, v.ownBlock = some k → k < w.heap.size := fun k hk => (own_lt h2 hk).2
  have hs := hb.size
  refine ⟨by simp [h1], by simpa using hw2, ?_, ?_, ?_⟩
  · intro j hj
    simp only [List.length_append, List.length_singleton] at hj
    by_cases e : j < R.length
    · rw [eV j e, eR j e]
      exact ownsRow_keep (h3 j e) (fun k hv => by
        have := hold j e k hv
        rw [hg k (by omega) (h4 j e k hv)]; exact hb.block k this)
    · obtain rfl : j = R.length := by omega
      rw [eV1, eR1]
      refine (ownsRow_keep ho (fun k hv => hg k (own_lt ho hv).2 (fun e2 => ?_)) : Own _ _ _ _).mono hB
      have := (own_lt ho hv).1
      have := hvold k e2
      omega
  · intro j hj k hk
    simp only [List.length_append, List.length_singleton] at hj
    by_cases e : j < R.length
    · rw [eV j e] at hk
      have := hold j e k hk
      exact hvn k (by omega) (h4 j e k hk)
    · obtain rfl : j = R.length := by omega
      rw [eV1] at hk
      have := own_lt ho hk
      exact hvn k this.2 (fun e2 => by have := hvold k e2; omega)
  · intro i j hi hj hne k hk
    simp only [List.length_append, List.length_singleton] at hi hj
    by_cases e : i < R.length
    · rw [eV i e] at hk
      by_cases e2 : j < R.length
      · rw [eV j e2]; exact h5 i j e e2 hne k hk
      · obtain rfl : j = R.length := by omega
        rw [eV1]
        intro e3
        have := hold i e k hk
        have := (own_lt ho e3).1
        omega
    · obtain rfl : i = R.length := by omega
      rw [eV1] at hk
      have e2 : j < R.length := by omega
      rw [eV j e2]
      intro e3
      have := hold j e2 k e3
      have := (own_lt ho hk).1
      omega
/-- A row of its own is appended, at a step of a region. -/
theorem step_appendRowP (w0 w : World) {ops : Array Oper} {o : Oper} {a : Act} {K : Act → World → Prop} {Q : Exit → Act → World → Prop} {E : Prop} (hgd : o.guard = none) (s x : Operand)
    (ho : o.op = .call { callee := .builtin .append, args := #[s, x], argTypes := #[22, 22] }) (B : Nat) (P : Nat → Prop) (v rv : Value) (R : List (List Int)) (l : List Int) (n g : Nat) (hn : R.length = n) (hs : a.eval s = v) (hown : OwnP w0 B P v R) (hb : Below w0.heap.size w0 w) (hro : Own w w0.heap.size rv l)
    (hx : a.eval x = .slice (some ⟨g, 0, none⟩) 1 1) (hy : w.cell? ⟨g, 0, none⟩ = some rv) (hlen : n ≤ 2000000) (hB : B ≤ w0.heap.size) (hP : ∀ k, w0.heap.size ≤ k → P k)
    (h : ∀ b' c' w', OwnP w' B P (.slice b' (n + 1) c') (R ++ [l]) → Below B w w' → (∀ k, k < w.heap.size → v.ownBlock ≠ some k → w'.heap[k]? = w.heap[k]?) → K (a.put o.dst (.slice b' (n + 1) c')) w') :
    if Region.wanted o (yielded ops a.tmps) = true then Oper.wp Try.prog o a w K Q else E := by
  subst hn
  obtain ⟨i0, hi, hz0, hz1, hz2⟩ := info_parts infoS64
  have hsz := hb.size
  obtain ⟨V, ⟨h1, h2, h3⟩, k1, k2⟩ := hown
  have hwV : w.ownsRow B 23 1 v R.length V := ownsRow_keep h2 (fun k hv => hb.block k (own_lt h2 hv).2)
  refine step_append_lies w hgd s x 22 ho B 23 i0 (.slice none 0 0) 1 24 Try.underlying22 hi hz0 hz1 hz2 rfl (by decide) v R.length V hs hwV ⟨g, 0, none⟩ 1 1 [rv] hx rfl ?c1 ?c2 (by decide) ?c3 ?c4 (Nat.le_trans hB hsz) w.heap.size rfl ?_
  case c1 =>
    intro j u hj
    have : j = 0 := by
      cases j with
      | zero => rfl
      | succ j => simp at hj
    subst this
    simp at hj
    subst hj
    exact hy
  case c2 =>
    intro u hu; simp at hu; subst hu
    obtain ⟨b', c', hv', _⟩ := own_form hro
    rw [hv']; rfl
  case c3 => unfold maxLen; omega
  case c4 => omega
  · intro g' cap' w' hown' hgrow hat hlt
    have hg : ∀ k, k < w.heap.size → v.ownBlock ≠ some k → w'.heap[k]? = w.heap[k]? := fun k hk hne => by
      obtain ⟨_, _, _, _, g5⟩ := hgrow
      exact g5 k hk (fun e => hne e.symm)
    have hV := OwnV.snocV (q := w.heap.size) (v' := .slice (some ⟨g', 0, none⟩) (R.length + 1) cap') ⟨h1, h2, h3⟩ hb hB hro hown' hg (by
      rcases hat with e | e
      · left; rw [e]; rfl
      · right; rw [e]; rfl) (Nat.le_refl _)
    refine h _ _ w' ⟨V ++ [rv], hV, fun k hk => ?_, fun i hi k hk => ?_⟩ ((Below.refl B w).grown hgrow (Nat.le_trans hB hsz) (fun k hk => (own_lt h2 hk).1)) hg
    · have hk' : g' = k := by simpa [Value.ownBlock] using hk
      subst hk'
      rcases hat with e | e
      · exact k1 _ e
      · exact hP _ (by omega)
    · have hlen : V.length = R.length := h1
      simp only [List.length_append, List.length_singleton] at hi
      by_cases q : i < R.length
      · rw [List.getD_eq_getElem?_getD, List.getElem?_append_left (by omega), ← List.getD_eq_getElem?_getD] at hk
        exact k2 i q k hk
      · obtain rfl : i = V.length := by omega
        have e : (V ++ [rv]).getD V.length (.slice none 0 0) = rv := by simp [List.getD_eq_getElem?_getD]
        rw [e] at hk
        exact hP k (own_lt hro hk).1
end Go.Proofs.Ytmcihaihbnnblaa.V

namespace Go.Proofs.Ytmcihaihbnnblaa
namespace M
theorem flat_take {X : List (List Int)} {k : Nat} (hk : k < X.length) : (X.take (k + 1)).flatten = (X.take k).flatten ++ X.getD k [] := by
  rw [List.take_succ_eq_append_getElem hk, List.flatten_append]
  simp [hk]
theorem flat_small {X : List (List Int)} {n L : Nat} (h1 : X.length = n) (h2 : ∀ i, i < n → (X.getD i []).length = L) : ∀ k, k ≤ n → (X.take k).flatten.length = k * L := by
  intro k
  induction k with
  | zero => intro _; simp
  | succ k ih =>
    intro hk
    rw [flat_take (by omega), List.length_append, ih (by omega), h2 k (by omega), Nat.succ_mul]
end M
namespace V
set_option maxRecDepth 100000
open Go.RowKit
/-- A list of integers is appended to an owned list of integers. -/
theorem appendInts (w : World) {ops : Array Oper} {rest : List Oper} {o : Oper} {a : Act} {Q : Exit → Act → World → Prop} (hgd : o.guard = none) (s x : Operand)
    (ho : o.op = .call { callee := .builtin .append, args := #[s, x], argTypes := #[23, 23] }) (B : Nat) (v : Value) (l l2 : List Int) (hs : a.eval s = v) (hown : Own w B v l)
    {ad : Option Addr} {n2 c2 : Nat} (hx : a.eval x = .slice ad n2 c2) (hI : Ints .i64 w ad n2 l2) (h0 : 0 < n2) (hlen : l.length + n2 ≤ 2000000) (hB : B ≤ w.heap.size)
    (h : ∀ b' c' w', Own w' B (.slice b' (l.length + n2) c') (l ++ l2) → Below B w w' → wpList Try.prog ops Q rest (a.put o.dst (.slice b' (l.length + n2) c')) w') :
    wpList Try.prog ops Q (o :: rest) a w := by
  obtain ⟨i0, hi, hz0, hz1, hz2⟩ := info_parts info64
  obtain ⟨e1, e2, e3⟩ := hI
  rcases e3 with e3 | ⟨b, off, rfl, hlt, hc⟩
  · omega
  refine wpList_append_own_at (w := w) hgd s x 23 ho B 2 i0 (.int .i64 0) 1 8 Try.underlying23 hi hz0 hz1 hz2 rfl (by decide) v _ _ hs hown ⟨b, off, none⟩ n2 c2 (l2.map (Value.int .i64)) hx (by simp [e1]) (ints_cells hc e1) ?c2 ?c3 ?c4 hB ?_
  case c2 => intro u hu; obtain ⟨x, _, rfl⟩ := List.mem_map.1 hu; rfl
  case c3 => unfold maxLen; omega
  case c4 => omega
  · intro v' w' hown' hgrow hz hvb
    have ho' : Own w' B v' (l ++ l2) := by
      show w'.ownsRow B _ 1 v' (l ++ l2).length ((l ++ l2).map (Value.int .i64))
      rw [List.length_append, e1, List.map_append]
      exact hown'
    obtain ⟨b', c', hv', _⟩ := own_form ho'
    rw [show (l ++ l2).length = l.length + n2 by rw [List.length_append, e1]] at hv'
    subst hv'
    exact h b' c' w' ho' ((Below.refl B w).grown hgrow hB (fun k hk => (own_lt hown hk).1))
set_option maxRecDepth 100000 in
set_option maxHeartbeats 1000000 in
theorem sFlat7 (a : Option Addr) (n cap L : Nat) (X : List (List Int)) (w : World) (h : Mat w a n X) (hr : Rect X n L) (n2 : n ≤ 10) (l1 : 1 ≤ L) (l2 : L ≤ 10) :
    Calls Try.prog 56 #[.slice a n cap] w fun e w' => ∃ b m c, e = .returned (.slice b m c) ∧ Own w' w.heap.size (.slice b m c) X.flatten ∧ Below w.heap.size w w' := by
  have HA := Lib.hid h
  have HR := Lib.hid hr
  have HLn := Lib.hid (M.flat_small h.1 hr.2)
  have HT : Hid (∀ k, k < n → (X.take (k + 1)).flatten = (X.take k).flatten ++ X.getD k []) := fun k hk => M.flat_take (by rw [h.1]; exact hk)
  have HXl := Lib.hid h.1
  clear h hr
  go_enter Try.func56, Try.ntmps56
  go_wp2
  go_loopw [3, 4] (fun ov kv wr => ∃ (k m : Nat) (b : Option Addr) (c : Nat), k ≤ n ∧ kv = .int .i64 k ∧ ov = .slice b m c ∧ Hid (Own wr w.heap.size (.slice b m c) (X.take k).flatten) ∧ Hid (Below w.heap.size w wr)) (fun _ kv _ => n - (intOf kv).toNat)
  case atStart => exact ⟨0, 0, _, _, Nat.zero_le _, rfl, rfl, own_lit0 w _ (Nat.le_refl _), b_alloc _ _⟩
  case round =>
    obtain ⟨k, m, b, c, hk, rfl, rfl, HO, HB⟩ := hrel
    by_cases hlt : k < n
    · have hki : (k : Int) < (n : Int) := by omega
      obtain ⟨ab, ao, ra, rc, rfl, -, hcr, hIr⟩ := (HA.out.below HB.out).rect_at HR.out k hlt
      have HIr := Lib.hid hIr
      have HTk := Lib.hid (HT.out k hlt)
      have hlk := HLn.out k (by omega)
      have hkL : k * L ≤ 10 * 10 := Nat.mul_le_mul (by omega) l2
      have HLk : Hid ((X.take k).flatten.length ≤ 100) := by show _ ≤ _; omega
      clear hIr hlk hkL
      generalize (X.take k).flatten = Xk at *
      go_wp2_with (at_builtin; refine appendInts _ rfl (.tmp 12) (.tmp 16) rfl w.heap.size _ Xk (X.getD k []) rfl HO.out rfl HIr.out (by omega) (by have := HLk.out; omega) HB.out.size ?_)
      intro b4 c4 w4 hO4 hb4
      have HO4 := Lib.hid hO4
      have HB4 := Lib.hid (HB.out.trans hb4)
      clear hO4 hb4
      go_wp2
      go_roundw
      case rel => exact ⟨k + 1, _, b4, c4, by omega, by go_num, rfl, by show Own _ _ _ _; rw [HTk.out]; exact HO4.out, HB4⟩
      case measure => simp [intOf]; omega
    · obtain rfl : k = n := by omega
      have HTa : Hid (X.take k = X) := List.take_of_length_le (by have := HXl.out; omega)
      go_wp2
      go_ret
      exact ⟨_, _, _, rfl, by have := HO.out; rw [HTa.out] at this; exact this, HB.out⟩
def serF (a0 v1 v2 : Value) (i : Nat) : Value := if i = 0 then a0 else if i = 1 then v1 else v2
/-- A series that has been looked at up to its element k. -/
def IsSer (w0 w : World) (p : Nat) (a : Option Addr) (n cap : Nat) (R F : List (List Int)) (k : Nat) : Prop :=
  Below w0.heap.size w0 w ∧ w0.heap.size ≤ p ∧ ∃ b1 c1 b2 c2, w.rowIs p 54 3 (serF (.slice a n cap) (.slice b1 n c1) (.slice b2 (k + 1) c2)) ∧
    OwnP w w0.heap.size (fun q => q ≠ p) (.slice b1 n c1) (M.sq7 R F k) ∧ OwnP w w0.heap.size (fun q => q ≠ p) (.slice b2 (k + 1) c2) (M.sqL R F (k + 1))
theorem IsSer.keep {w0 w w' : World} {p n cap k : Nat} {a : Option Addr} {R F : List (List Int)} (h : IsSer w0 w p a n cap R F k) (hb : Below w.heap.size w w') : IsSer w0 w' p a n cap R F k := by
  obtain ⟨h1, h2, b1, c1, b2, c2, h3, h4, h5⟩ := h
  exact ⟨h1.trans (hb.mono h1.size), h2, b1, c1, b2, c2, World.rowIs.of_block h3 (hb.block p (World.rowIs.lt h3)), h4.below hb, h5.below hb⟩
theorem serF_set1 (a0 v1 v2 v : Value) : ∀ i, i < 3 → (if i = 1 then v else serF a0 v1 v2 i) = serF a0 v v2 i := fun i hi => by
  unfold serF
  by_cases e : i = 0
  · subst e; rfl
  · by_cases e1 : i = 1
    · simp [e, e1]
    · simp [e, e1]
theorem serF_set2 (a0 v1 v2 v : Value) : ∀ i, i < 3 → (if i = 2 then v else serF a0 v1 v2 i) = serF a0 v1 v i := fun i hi => by
  unfold serF
  by_cases e : i = 0
  · subst e; rfl
  · by_cases e1 : i = 1
    · subst e1; rfl
    · have : i = 2 := by omega
      subst this; rfl
set_option maxRecDepth 100000 in
set_option maxHeartbeats 1000000 in
theorem sStart7 (w0 : World) (a : Option Addr) (n cap L : Nat) (R F : List (List Int)) (b : Option Addr) (c : Nat) (w : World) (hb0 : Below w0.heap.size w0 w) (hF : OwnM w w0.heap.size (.slice b n c) F) (hr : Rect F n L) (n2 : n ≤ 10) (l1 : 1 ≤ L) (l2 : L ≤ 10) :
    Calls Try.prog 32 #[.slice a n cap, .slice b n c] w fun e w' => ∃ p, e = .returned (.pointer (some ⟨p, 0, none⟩)) ∧ IsSer w0 w' p a n cap R F 0 := by
  have HB0 := Lib.hid hb0
  have HF := Lib.hid hF
  have hz0 := hb0.size
  have HR := Lib.hid hr
  clear hb0 hF hr
  go_enter Try.func32, Try.ntmps32
  go_wp2_with fail
  refine (sFlat7 _ _ _ L F _ HF.out.mat HR.out n2 l1 l2).mono ?_
  rintro e w1 ⟨b1, m1, c1, rfl, ho, hb⟩
  have HO1 := Lib.hid ho
  have HF1 := Lib.hid (HF.out.below hb)
  have HB1 := Lib.hid (HB0.out.trans (hb.mono hz0))
  have hz1 := hb.size
  clear ho hb HF
  go_wp2
  go_ret
  refine ⟨w1.heap.size + 1, by simp, ?_⟩
  have hA : Below w1.heap.size w1 (w1.alloc (.cells #[.slice b1 m1 c1] 23)) := b_alloc _ _
  have hz : (w1.alloc (.cells #[.slice b1 m1 c1] 23)).heap.size = w1.heap.size + 1 := by simp
  have hLi : OwnM (w1.alloc (.cells #[.slice b1 m1 c1] 23)) w.heap.size (.slice (some ⟨w1.heap.size, 0, none⟩) 1 1) [F.flatten] := ownM_lit1 w1 _ hz1 HO1.out
  have hFi := HF1.out.below hA
  have hBi := HB1.out.trans (hA.mono (Nat.le_trans hz0 hz1))
  generalize w1.alloc (.cells #[.slice b1 m1 c1] 23) = wa at *
  have hA2 : ∀ o, Below wa.heap.size wa (wa.alloc o) := fun o => b_alloc _ _
  refine ⟨hBi.trans ((hA2 _).mono (by omega)), by omega, b, c, _, _, ?_, OwnP.below (hFi.toP fun k _ hk => by omega) (hA2 _), OwnP.below ((hLi.mono (by omega)).toP fun k _ hk => by omega) (hA2 _)⟩
  have := World.rowIs_alloc wa #[.slice a n cap, .slice b n c, .slice (some ⟨w1.heap.size, 0, none⟩) 1 1] 54 (serF (.slice a n cap) (.slice b n c) (.slice (some ⟨w1.heap.size, 0, none⟩) 1 1)) (fun i hi => by
    have hi : i < 3 := hi
    match i, hi with
    | 0, _ => rfl
    | 1, _ => rfl
    | 2, _ => rfl)
  rw [hz] at this
  exact this
end V
end Go.Proofs.Ytmcihaihbnnblaa
