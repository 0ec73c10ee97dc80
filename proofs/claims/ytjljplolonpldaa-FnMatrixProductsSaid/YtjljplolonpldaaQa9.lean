/- Texts laid together: OwnP, SAdd, Clo1, MatH. -/
import Derived.Test.YtjljplolonpldaaQa3
import Derived.Deep.AppendLies
import Derived.Test.YtjljplolonpldaaRows
import Derived.Test.YtjljplolonpldaaQa1
import Derived.Test.YtjljplolonpldaaQa2
import Derived.WalkKit
import Derived.ProofKit
import Derived.WalkSmall
import Derived.Deep.QuietTactic
import Derived.BigQuiet
import Derived.BigRegion
import Derived.Deep.Draws
import Derived.Lib.Hide
import Derived.OpenShut
import Derived.Deep.OwnRows
import Derived.Test.YtjljplolonpldaaQa4
import Derived.StillTailTactics
import Derived.IntWalk
import Derived.Test.YtjljplolonpldaaQa5
import Derived.Test.YtjljplolonpldaaQa8
import Derived.Lib.SliceRun
set_option linter.unusedSimpArgs false
set_option linter.unusedVariables false
set_option linter.unusedSectionVars false
namespace Go.Proofs.Ytjljplolonpldaa.V
open Go.RowKit
/-- An owned matrix all of whose blocks have the property P. -/
def OwnP (w : World) (B : Nat) (P : Nat → Prop) (v : Value) (R : List (List Int)) : Prop :=
  ∃ V, OwnV w B v R V ∧ (∀ k, v.ownBlock = some k → P k) ∧ ∀ i, i < R.length → ∀ k, (V.getD i (.slice none 0 0)).ownBlock = some k → P k
theorem OwnP.toM {w : World} {B : Nat} {P : Nat → Prop} {v : Value} {R : List (List Int)} (h : OwnP w B P v R) : OwnM w B v R := by
  obtain ⟨V, h, -⟩ := h
  exact ⟨V, h⟩
theorem OwnM.toP {w : World} {B : Nat} {P : Nat → Prop} {v : Value} {R : List (List Int)} (h : OwnM w B v R) (hP : ∀ k, B ≤ k → k < w.heap.size → P k) : OwnP w B P v R := by
  obtain ⟨V, h⟩ := h
  refine ⟨V, h, fun k hk => ?_, fun i hi k hk => ?_⟩
  · have := own_lt h.2.1 hk; exact hP k this.1 this.2
  · have := own_lt (h.2.2.1 i hi) hk; exact hP k this.1 this.2
theorem OwnP.imp {w : World} {B : Nat} {P Q : Nat → Prop} {v : Value} {R : List (List Int)} (h : OwnP w B P v R) (hP : ∀ k, P k → Q k) : OwnP w B Q v R := by
  obtain ⟨V, h, h1, h2⟩ := h
  exact ⟨V, h, fun k hk => hP k (h1 k hk), fun i hi k hk => hP k (h2 i hi k hk)⟩
theorem OwnP.mono {w : World} {B B' : Nat} {P : Nat → Prop} {v : Value} {R : List (List Int)} (h : OwnP w B P v R) (hb : B' ≤ B) : OwnP w B' P v R := by
  obtain ⟨V, ⟨h1, h2, h3, h4, h5⟩, k1, k2⟩ := h
  exact ⟨V, ⟨h1, World.ownsRow.mono h2 hb, fun i hi => (h3 i hi).mono hb, h4, h5⟩, k1, k2⟩
theorem OwnP.keep {w w' : World} {B : Nat} {P : Nat → Prop} {v : Value} {R : List (List Int)} (h : OwnP w B P v R) (hk : ∀ k, P k → B ≤ k → k < w.heap.size → w'.heap[k]? = w.heap[k]?) : OwnP w' B P v R := by
  obtain ⟨V, ⟨h1, h2, h3, h4, h5⟩, k1, k2⟩ := h
  exact ⟨V, ⟨h1, ownsRow_keep h2 (fun k hv => hk k (k1 k hv) (own_lt h2 hv).1 (own_lt h2 hv).2), fun i hi => ownsRow_keep (h3 i hi) (fun k hv => hk k (k2 i hi k hv) (own_lt (h3 i hi) hv).1 (own_lt (h3 i hi) hv).2), h4, h5⟩, k1, k2⟩
theorem OwnP.below {w w' : World} {B : Nat} {P : Nat → Prop} {v : Value} {R : List (List Int)} (h : OwnP w B P v R) (hb : Below w.heap.size w w') : OwnP w' B P v R :=
  h.keep (fun k _ _ h2 => hb.block k h2)
theorem OwnV.at {w : World} {B n cap : Nat} {a : Option Addr} {R : List (List Int)} {V : List Value} (h : OwnV w B (.slice a n cap) R V) (i j : Nat) (hi : i < n) (hj : j < (R.getD i []).length) :
    ∃ g q L c x, a = some ⟨g, 0, none⟩ ∧ B ≤ g ∧ B ≤ q ∧ L = (R.getD i []).length ∧ x = (R.getD i []).getD j 0 ∧ w.cell? ⟨g, i, none⟩ = some (.slice (some ⟨q, 0, none⟩) L c) ∧ w.cell? ⟨q, j, none⟩ = some (.int .i64 x) ∧ w.frozen? ⟨q, j, none⟩ = false ∧
      (V.getD i (.slice none 0 0)).ownBlock = some q ∧ ∀ y, OwnV (w.setCell ⟨q, j, none⟩ (.int .i64 y)) B (.slice a n cap) (R.set i ((R.getD i []).set j y)) V := by
  obtain ⟨h1, h2, h3, h4, h5⟩ := h
  obtain ⟨a', c', hv, hc, hm, hg⟩ := own_form h2
  injection hv with e1 e2 e3
  subst e1 e2 e3
  obtain ⟨g, rfl, hBg, hlt⟩ := hg (by omega)
  have hrow := h3 i hi
  obtain ⟨ra, rc, hrv, hrc, hrm, hrg⟩ := own_form hrow
  obtain ⟨q, rfl, hBq, hqlt⟩ := hrg (by omega)
  have hcell := World.ownsRow.cellAt h2 i (by omega)
  have hVi : V[i]? = some (V.getD i (.slice none 0 0)) := by simp [h1, hi]
  have hrow' := hrow
  rw [hrv] at hrow'
  have hcell2 := World.ownsRow.cellAt hrow' j (by omega)
  refine ⟨g, q, _, rc, _, rfl, hBg, hBq, rfl, rfl, ?_, ?_, World.ownsRow.frozenAt hrow' j, by rw [hrv]; rfl, fun y => ?_⟩
  · rw [hcell, hVi, hrv]
  · rw [hcell2]
    generalize R.getD i [] = l at hj
    simp [hj]
  · have hqg : q ≠ g := fun e => h4 i hi q (by rw [hrv]; rfl) (by rw [e]; rfl)
    refine ⟨by simpa using h1, ?_, ?_, ?_, ?_⟩
    · rw [List.length_set]
      exact ownsRow_keep h2 (fun k hv => Below.heap_setCell _ _ _ _ (by
        simp only [Value.ownBlock, Option.some.injEq] at hv; show k ≠ q; omega))
    · intro t ht
      simp only [List.length_set] at ht
      rw [getD_set _ _ _ _ _ (by omega)]
      by_cases e : t = i
      · subst e
        rw [if_pos rfl, hrv]
        exact Own.set hrow' j y
      · rw [if_neg e]
        refine ownsRow_keep (h3 t ht) (fun k hv => Below.heap_setCell _ _ _ _ ?_)
        show k ≠ q
        intro e2
        subst e2
        exact h5 t i ht hi e k hv (by rw [hrv]; rfl)
    · intro t ht
      simp only [List.length_set] at ht
      exact h4 t ht
    · intro t s ht hs
      simp only [List.length_set] at ht hs
      exact h5 t s ht hs

/-- What is needed to read and to write the entry at i, j. -/
theorem OwnP.at {w : World} {B n cap : Nat} {P : Nat → Prop} {a : Option Addr} {R : List (List Int)} (h : OwnP w B P (.slice a n cap) R) (i j : Nat) (hi : i < n) (hj : j < (R.getD i []).length) :
    ∃ g q L c x, a = some ⟨g, 0, none⟩ ∧ B ≤ g ∧ B ≤ q ∧ P q ∧ L = (R.getD i []).length ∧ x = (R.getD i []).getD j 0 ∧ w.cell? ⟨g, i, none⟩ = some (.slice (some ⟨q, 0, none⟩) L c) ∧ w.cell? ⟨q, j, none⟩ = some (.int .i64 x) ∧ w.frozen? ⟨q, j, none⟩ = false ∧
      ∀ y, OwnP (w.setCell ⟨q, j, none⟩ (.int .i64 y)) B P (.slice a n cap) (R.set i ((R.getD i []).set j y)) := by
  have hn := (OwnP.toM h).len
  obtain ⟨V, h, k1, k2⟩ := h
  obtain ⟨g, q, L, c, x, e1, e2, e3, e4, e5, c1, c2, f, hq, ho⟩ := h.at i j hi hj
  exact ⟨g, q, L, c, x, e1, e2, e3, k2 i (by omega) q hq, e4, e5, c1, c2, f, fun y => ⟨V, ho y, k1, fun i hi => k2 i (by simpa using hi)⟩⟩
theorem OwnV.snocV {w w1 w2 : World} {B q : Nat} {v v' rv : Value} {R : List (List Int)} {V : List Value} {l : List Int} (h : OwnV w B v R V) (hb : Below w.heap.size w w1) (hB : B ≤ w.heap.size) (ho : Own w1 w.heap.size rv l)
    (hw2 : w2.ownsRow B 29 1 v' (R.length + 1) (V ++ [rv])) (hg : ∀ k, k < w1.heap.size → v.ownBlock ≠ some k → w2.heap[k]? = w1.heap[k]?)
    (hvb : v'.ownBlock = v.ownBlock ∨ v'.ownBlock = some q) (hq : w1.heap.size ≤ q) : OwnV w2 B v' (R ++ [l]) (V ++ [rv]) := by
  obtain ⟨h1, h2, h3, h4, h5⟩ := h
  have eV : ∀ j, j < R.length → (V ++ [rv]).getD j (.slice none 0 0) = V.getD j (.slice none 0 0) := fun j hj => by
    simp [List.getD_eq_getElem?_getD, List.getElem?_append_left, h1, hj]
  have eV1 : (V ++ [rv]).getD R.length (.slice none 0 0) = rv := by
    simp [List.getD_eq_getElem?_getD, ← h1]
  have eR : ∀ j, j < R.length → (R ++ [l]).getD j [] = R.getD j [] := fun j hj => by
    simp [List.getD_eq_getElem?_getD, List.getElem?_append_left, hj]
  have eR1 : (R ++ [l]).getD R.length [] = l := by
    simp [List.getD_eq_getElem?_getD]
  have hold : ∀ j, j < R.length → ∀ k, (V.getD j (.slice none 0 0)).ownBlock = some k → k < w.heap.size := fun j hj k hk => (own_lt (h3 j hj) hk).2
  have hvn : ∀ k, k < w1.heap.size → v.ownBlock ≠ some k → v'.ownBlock ≠ some k := fun k hk hne => by
    rcases hvb with e | e
    · rw [e]; exact hne
    · rw [e]; intro e2; simp only [Option.some.injEq] at e2; omega
  have hvold : ∀ k, v.ownBlock = some k → k < w.heap.size := fun k hk => (own_lt h2 hk).2
  have hs := hb.size
  refine ⟨by simp [h1], by simpa using hw2, ?_, ?_, ?_⟩
  · intro j hj
    simp only [List.length_append, List.length_singleton] at hj
    by_cases e : j < R.length
    · rw [eV j e, eR j e]
      exact ownsRow_keep (h3 j e) (fun k hv => by
        have := hold j e k hv
        rw [hg k (by omega) (h4 j e k hv)]; exact hb.block k this)
    · obtain rfl : j = R.length := by omega
      rw [eV1, eR1]
      refine (ownsRow_keep ho (fun k hv => hg k (own_lt ho hv).2 (fun e2 => ?_)) : Own _ _ _ _).mono hB
      have := (own_lt ho hv).1
      have := hvold k e2
      omega
  · intro j hj k hk
    simp only [List.length_append, List.length_singleton] at hj
    by_cases e : j < R.length
    · rw [eV j e] at hk
      have := hold j e k hk
      exact hvn k (by omega) (h4 j e k hk)
    · obtain rfl : j = R.length := by omega
      rw [eV1] at hk
      have := own_lt ho hk
      exact hvn k this.2 (fun e2 => by have := hvold k e2; omega)
  · intro i j hi hj hne k hk
    simp only [List.length_append, List.length_singleton] at hi hj
    by_cases e : i < R.length
    · rw [eV i e] at hk
      by_cases e2 : j < R.length
      · rw [eV j e2]; exact h5 i j e e2 hne k hk
      · obtain rfl : j = R.length := by omega
        rw [eV1]
        intro e3
        have := hold i e k hk
        have := (own_lt ho e3).1
        omega
    · obtain rfl : i = R.length := by omega
      rw [eV1] at hk
      have e2 : j < R.length := by omega
      rw [eV j e2]
      intro e3
      have := hold j e2 k e3
      have := (own_lt ho hk).1
      omega
/-- A row of its own is appended, at a step of a region. -/
theorem step_appendRowP (w0 w : World) {ops : Array Oper} {o : Oper} {a : Act} {K : Act → World → Prop} {Q : Exit → Act → World → Prop} {E : Prop} (hgd : o.guard = none) (s x : Operand)
    (ho : o.op = .call { callee := .builtin .append, args := #[s, x], argTypes := #[22, 22] }) (B : Nat) (P : Nat → Prop) (v rv : Value) (R : List (List Int)) (l : List Int) (n g : Nat) (hn : R.length = n) (hs : a.eval s = v) (hown : OwnP w0 B P v R) (hb : Below w0.heap.size w0 w) (hro : Own w w0.heap.size rv l)
    (hx : a.eval x = .slice (some ⟨g, 0, none⟩) 1 1) (hy : w.cell? ⟨g, 0, none⟩ = some rv) (hlen : n ≤ 2000000) (hB : B ≤ w0.heap.size) (hP : ∀ k, w0.heap.size ≤ k → P k)
    (h : ∀ b' c' w', OwnP w' B P (.slice b' (n + 1) c') (R ++ [l]) → Below B w w' → (∀ k, k < w.heap.size → v.ownBlock ≠ some k → w'.heap[k]? = w.heap[k]?) → K (a.put o.dst (.slice b' (n + 1) c')) w') :
    if Region.wanted o (yielded ops a.tmps) = true then Oper.wp Try.prog o a w K Q else E := by
  subst hn
  obtain ⟨i0, hi, hz0, hz1, hz2⟩ := info_parts infoS64
  have hsz := hb.size
  obtain ⟨V, ⟨h1, h2, h3⟩, k1, k2⟩ := hown
  have hwV : w.ownsRow B 29 1 v R.length V := ownsRow_keep h2 (fun k hv => hb.block k (own_lt h2 hv).2)
  refine step_append_lies w hgd s x 22 ho B 29 i0 (.slice none 0 0) 1 24 Try.underlying22 hi hz0 hz1 hz2 rfl (by decide) v R.length V hs hwV ⟨g, 0, none⟩ 1 1 [rv] hx rfl ?c1 ?c2 (by decide) ?c3 ?c4 (Nat.le_trans hB hsz) w.heap.size rfl ?_
  case c1 =>
    intro j u hj
    have : j = 0 := by
      cases j with
      | zero => rfl
      | succ j => simp at hj
    subst this
    simp at hj
    subst hj
    exact hy
  case c2 =>
    intro u hu; simp at hu; subst hu
    obtain ⟨b', c', hv', _⟩ := own_form hro
    rw [hv']; rfl
  case c3 => unfold maxLen; omega
  case c4 => omega
  · intro g' cap' w' hown' hgrow hat hlt
    have hg : ∀ k, k < w.heap.size → v.ownBlock ≠ some k → w'.heap[k]? = w.heap[k]? := fun k hk hne => by
      obtain ⟨_, _, _, _, g5⟩ := hgrow
      exact g5 k hk (fun e => hne e.symm)
    have hV := OwnV.snocV (q := w.heap.size) (v' := .slice (some ⟨g', 0, none⟩) (R.length + 1) cap') ⟨h1, h2, h3⟩ hb hB hro hown' hg (by
      rcases hat with e | e
      · left; rw [e]; rfl
      · right; rw [e]; rfl) (Nat.le_refl _)
    refine h _ _ w' ⟨V ++ [rv], hV, fun k hk => ?_, fun i hi k hk => ?_⟩ ((Below.refl B w).grown hgrow (Nat.le_trans hB hsz) (fun k hk => (own_lt h2 hk).1)) hg
    · have hk' : g' = k := by simpa [Value.ownBlock] using hk
      subst hk'
      rcases hat with e | e
      · exact k1 _ e
      · exact hP _ (by omega)
    · have hlen : V.length = R.length := h1
      simp only [List.length_append, List.length_singleton] at hi
      by_cases q : i < R.length
      · rw [List.getD_eq_getElem?_getD, List.getElem?_append_left (by omega), ← List.getD_eq_getElem?_getD] at hk
        exact k2 i q k hk
      · obtain rfl : i = V.length := by omega
        have e : (V ++ [rv]).getD V.length (.slice none 0 0) = rv := by simp [List.getD_eq_getElem?_getD]
        rw [e] at hk
        exact hP k (own_lt hro hk).1
end Go.Proofs.Ytjljplolonpldaa.V

namespace Go.Proofs.Ytjljplolonpldaa.V
open Go.RowKit

theorem ints_cells {w : World} {b off n : Nat} {l : List Int} (hc : ∀ i, i < n → w.cell? ⟨b, off + i, none⟩ = some (.int .i64 (l.getD i 0))) (hl : l.length = n) : ∀ j u, (l.map (Value.int .i64))[j]? = some u → w.cell? ((⟨b, off, none⟩ : Addr).add j) = some u := by
  intro j u hj
  have hjn : j < n := by
    by_cases e : j < n
    · exact e
    · rw [List.getElem?_eq_none (by simp; omega)] at hj; cases hj
  rw [Go.WideShapes.add_plain, hc j hjn]
  rw [← hj]
  simp [show j < l.length by omega]

set_option maxRecDepth 100000 in
set_option maxHeartbeats 1000000 in
theorem sOwn (a : Option Addr) (n cap : Nat) (l : List Int) (w : World) (h : Ints .i64 w a n l) (h0 : 0 < n) (hn : n ≤ 1000) :
    Calls Try.prog 88 #[.slice a n cap] w fun e w' => ∃ b c, e = .returned (.slice b n c) ∧ Own w' w.heap.size (.slice b n c) l ∧ Below w.heap.size w w' := by
  obtain ⟨hl, hm, hr⟩ := h
  rcases hr with hr | ⟨b, off, rfl, hb, hc⟩
  · omega
  have HL := Lib.hid hl
  have HC := Lib.hid hc
  have HO : Hid (Own (w.alloc (.cells #[] 2)) w.heap.size (.slice (some ⟨w.heap.size, 0, none⟩) 0 0) []) := own_lit0 w _ (Nat.le_refl _)
  obtain ⟨i0, hi, hz0, hz1, hz2⟩ := info_parts info64
  clear hl hc hm
  have HI := Lib.hid hi
  clear hi
  go_enter Try.func88, Try.ntmps88
  go_wp2_with (at_builtin; refine wpList_append_own_at (w := w.alloc (.cells #[] 2)) rfl (.tmp 3) (.tmp 4) 29 rfl w.heap.size 2 i0 (.int .i64 0) 1 8 Try.underlying29 HI.out hz0 hz1 hz2 rfl (by decide) (.slice (some ⟨w.heap.size, 0, none⟩) 0 0) 0 [] rfl HO.out ⟨b, off, none⟩ n cap (l.map (Value.int .i64)) rfl ?c0 ?c1 ?c2 ?c3 ?c4 ?c5 ?_)
  case c0 => have := HL.out; simp [this]
  case c1 =>
    refine ints_cells (fun i hi' => ?_) HL.out
    rw [(b_alloc w _).cell (p := ⟨b, off + i, none⟩) hb]; exact HC.out i hi'
  case c2 => intro u hu; obtain ⟨x, _, rfl⟩ := List.mem_map.1 hu; rfl
  case c3 => unfold maxLen; omega
  case c4 => omega
  case c5 => simp
  intro v' w' ho hg hz hv
  have ho' : Own w' w.heap.size v' l := by
    show w'.ownsRow w.heap.size _ 1 v' l.length (l.map (Value.int .i64))
    rw [HL.out]
    simpa using ho
  obtain ⟨b', c', rfl, _⟩ := own_form ho'
  rw [HL.out] at ho' ⊢
  have HB : Hid (Below w.heap.size w w') := (b_alloc w _).grown hg (by simp) (fun k hk => by simp [Value.ownBlock] at hk; omega)
  have HO' := Lib.hid ho'
  clear ho ho' hg hz hv
  go_wp2
  go_ret
  exact ⟨_, _, rfl, HO'.out, HB.out⟩

set_option maxRecDepth 100000 in
set_option maxHeartbeats 1000000 in
theorem sOwnM (a : Option Addr) (n cap : Nat) (R : List (List Int)) (w : World) (h : Mat w a n R) (hn : n ≤ 1000) (h0 : ∀ i, i < n → 0 < (R.getD i []).length ∧ (R.getD i []).length ≤ 1000) :
    Calls Try.prog 143 #[.slice a n cap] w (MPost n R w) := by
  have HA := Lib.hid h
  have HL := Lib.hid h.1
  have H0 := Lib.hid h0
  have hO0 : Hid (OwnM (w.alloc (.cells #[] 29)) w.heap.size (.slice (some ⟨w.heap.size, 0, none⟩) 0 0) []) := ownM_lit0 w _ (Nat.le_refl _)
  clear h h0
  go_enter Try.func143, Try.ntmps143
  go_wp2
  go_loopw [3, 4] (fun out i wr => ∃ k : Nat, k ≤ n ∧ i = .int .i64 k ∧ ∃ b c, out = .slice b k c ∧ OwnM wr w.heap.size (.slice b k c) (R.take k) ∧ Below w.heap.size w wr) (fun _ i _ => n - (intOf i).toNat)
  case atStart => exact ⟨0, Nat.zero_le _, rfl, _, _, rfl, hO0.out, b_alloc _ _⟩
  case round =>
    obtain ⟨k, hk, rfl, b, c, rfl, hO, hb⟩ := hrel
    have HO := Lib.hid hO
    have HB := Lib.hid hb
    clear hO hb hO0
    by_cases hlt : k < n
    · have hki : (k : Int) < (n : Int) := by omega
      obtain ⟨d, od, ra, rc, L, l, rfl, -, hl, hc, hI⟩ := (HA.out.below HB.out).at k hlt
      have hz := H0.out k hlt
      rw [← hl, hI.1] at hz
      obtain ⟨z1, z2⟩ := hz
      have HI := Lib.hid hI
      have HLl := Lib.hid hl
      clear hI hl
      go_wp2_with fail
      refine (sOwn _ _ _ l _ HI.out z1 z2).mono ?_
      rintro e w1 ⟨b1, c1, rfl, ho1, hb1⟩
      have HO1 := Lib.hid ho1
      have HB1 := Lib.hid hb1
      clear ho1 hb1
      have hs1 := HB.out.size
      have hlen := HO.out.len
      have HLn := Lib.hid hlen
      clear hlen
      go_wp2_with (at_builtin; refine appendRow wr _ rfl (.tmp 12) (.tmp 18) rfl w.heap.size _ _ _ _ k HO.out.len.symm rfl HO.out HB1.out HO1.out rfl (by rw [← HLn.out]; omega) hs1 ?_)
      intro b2 c2 w2 hO2 hb2 _
      have HO2 : Hid (OwnM w2 w.heap.size (.slice b2 (k + 1) c2) (R.take (k + 1))) := by
        show OwnM _ _ _ _
        rw [List.take_succ_eq_append_getElem (by have := HL.out; omega)]
        rw [HLl.out] at hO2
        simpa [show k < R.length by have := HL.out; omega] using hO2
      have HB2 := Lib.hid (HB.out.trans ((HB1.out.mono hs1).trans hb2))
      clear hO2 hb2
      go_wp2
      go_roundw
      case rel => exact ⟨k + 1, by omega, by go_num, _, _, rfl, HO2.out, HB2.out⟩
      case measure => simp [intOf]; omega
    · obtain rfl : k = n := by omega
      have hO2 := HO.out
      rw [List.take_of_length_le (by have := HL.out; omega)] at hO2
      have HO2 := Lib.hid hO2
      clear hO2
      go_wp2
      go_ret
      exact ⟨_, _, rfl, HO2.out, HB.out⟩

set_option maxRecDepth 100000 in
set_option maxHeartbeats 4000000 in
theorem sAddB (a : Option Addr) (n cap : Nat) (R : List (List Int)) (a' : Option Addr) (cap' : Nat) (R' : List (List Int)) (L : Nat) (w : World) (h : Mat w a n R) (h' : Mat w a' n R') (hr : Rect R n L) (hr' : Rect R' n L) (m1 : 1 ≤ n) (m2 : n ≤ 10) (c1 : 1 ≤ L) (c2 : L ≤ 10) :
    Calls Try.prog 120 #[.slice a n cap, .slice a' n cap'] w (MPost n (M.mk n L (fun i j => max (M.ent R i j) (M.ent R' i j))) w) := by
  have HA := Lib.hid h
  have HA' := Lib.hid h'
  have HL := Lib.hid h.1
  have HL' := Lib.hid h'.1
  have HR := Lib.hid hr
  have HR' := Lib.hid hr'
  have HE : Hid (R = M.mk n L (M.ent R)) := by
    show _ = _
    rw [← hr.1]
    exact (M.mk_self R L (fun i hi => hr.2 i (by rw [← hr.1]; exact hi))).symm
  have H0 : Hid (∀ i, i < n → 0 < (R.getD i []).length ∧ (R.getD i []).length ≤ 1000) := fun i hi => by
    rw [hr.2 i hi]; omega
  clear h h' hr hr'
  go_enter Try.func120, Try.ntmps120
  go_wp2_with fail
  refine (sOwnM _ _ _ R _ HA.out (by omega) H0.out).mono ?_
  rintro e w1 ⟨a2, cap2, rfl, ho, hb⟩
  have hO0 : OwnM w1 w.heap.size (.slice a2 n cap2) (M.mk n L (fun i j => if i < 0 then max (M.ent R i j) (M.ent R' i j) else M.ent R i j)) := by
    rw [HE.out] at ho
    exact (congrArg (OwnM _ _ _) (M.mk_congr fun i _ j _ => by rw [if_neg (Nat.not_lt_zero i)])).mp ho
  have HO0 := Lib.hid hO0
  have HB0 := Lib.hid hb
  clear ho hb hO0
  go_wp2
  go_loopw [6] (fun i wr => ∃ k : Nat, k ≤ n ∧ i = .int .i64 k ∧ OwnM wr w.heap.size (.slice a2 n cap2) (M.mk n L (fun i j => if i < k then max (M.ent R i j) (M.ent R' i j) else M.ent R i j)) ∧ Below w.heap.size w wr) (fun i _ => n - (intOf i).toNat)
  case atStart => exact ⟨0, Nat.zero_le _, rfl, HO0.out, HB0.out⟩
  case round =>
    obtain ⟨k, hk, rfl, hO, hb⟩ := hrel
    obtain ⟨wo, rfl⟩ : ∃ x, x = wr := ⟨_, rfl⟩
    have HO := Lib.hid hO
    have HB := Lib.hid hb
    clear hO hb HO0 HB0
    by_cases hlt : k < n
    · have hki : (k : Int) < (n : Int) := by omega
      have HO2 : Hid (OwnM wo w.heap.size (.slice a2 n cap2) (M.mk n L (fun i j => if i < k ∨ (i = k ∧ j < 0) then max (M.ent R i j) (M.ent R' i j) else M.ent R i j))) :=
        (congrArg (OwnM _ _ _) (M.mk_congr fun i _ j _ => by
          by_cases e : i < k
          · rw [if_pos e, if_pos (.inl e)]
          · rw [if_neg e, if_neg (by omega)])).mp HO.out
      go_wp2
      go_loopw [7] (fun j wr => ∃ t : Nat, t ≤ L ∧ j = .int .i64 t ∧ OwnM wr w.heap.size (.slice a2 n cap2) (M.mk n L (fun i j => if i < k ∨ (i = k ∧ j < t) then max (M.ent R i j) (M.ent R' i j) else M.ent R i j)) ∧ Below w.heap.size w wr) (fun j _ => L - (intOf j).toNat)
      case atStart => exact ⟨0, Nat.zero_le _, rfl, HO2.out, HB.out⟩
      case round =>
        obtain ⟨t, ht, rfl, hO, hb⟩ := hrel
        have HOi := Lib.hid hO
        have HBi := Lib.hid hb
        clear hO hb HO2 HB HO
        by_cases htl : t < L
        · have hti : (t : Int) < (L : Int) := by omega
          have hkR' : k < R'.length := by have := HL'.out; omega
          obtain ⟨g, q, L3, c3, x3, rfl, hg3, hq3, hL3, hx3, c31, c32, f31, ho3⟩ := HOi.out.at k t hlt (by rw [M.mk_rowlen _ _ _ _ hlt]; exact htl)
          rw [M.mk_rowlen _ _ _ _ hlt] at hL3
          subst hL3
          obtain ⟨d, od, rd', ro', L5, c5, x5, rfl, hL5, hx5, c51, c52⟩ := (HA'.out.below HBi.out).ent k t hlt (by rw [HR'.out.2 k hlt]; exact htl)
          rw [HR'.out.2 k hlt] at hL5
          subst hL5
          rw [M.mk_ent _ _ _ _ _ hlt htl, if_neg (by omega)] at hx3
          have HN : Hid (OwnM (wr.setCell ⟨q, t, none⟩ (.int .i64 (if x3 < x5 then x5 else x3))) w.heap.size (.slice (some ⟨g, 0, none⟩) n cap2) (M.mk n L5 (fun i j => if i < k ∨ (i = k ∧ j < t + 1) then max (M.ent R i j) (M.ent R' i j) else M.ent R i j))) := by
            refine (congrArg (OwnM _ _ _) ?_).mp (ho3 (if x3 < x5 then x5 else x3))
            rw [M.mk_set _ _ _ _ _ _ hlt]
            refine M.mk_congr fun i _ j _ => ?_
            by_cases e : i = k
            · subst e
              rw [if_pos rfl]
              by_cases e2 : j = t
              · subst e2; rw [if_pos rfl, ← M.ifmax, if_pos (.inr ⟨rfl, by omega⟩), hx3, hx5]; rfl
              · rw [if_neg e2]
                by_cases e3 : j < t
                · rw [if_pos (.inr ⟨rfl, e3⟩), if_pos (.inr ⟨rfl, by omega⟩)]
                · rw [if_neg (by omega), if_neg (by omega)]
            · rw [if_neg e]
              by_cases e3 : i < k
              · rw [if_pos (.inl e3), if_pos (.inl e3)]
              · rw [if_neg (by omega), if_neg (by omega)]
          clear ho3 hx3 hx5 hkR'
          go_wp2
          go_still_tail 21, (by kernel_rfl)
          change wpList _ _ _ _ _ wr.drew
          go_wp2
          exact ⟨⟨t + 1, by omega, by go_num, HN.out.keep (fun _ _ _ => rfl), HBi.out.drew.setCell hq3 _⟩, by simp [intOf]; omega⟩
        · obtain rfl : t = L := by omega
          have HO2 : Hid (OwnM wr w.heap.size (.slice a2 n cap2) (M.mk n t (fun i j => if i < k + 1 then max (M.ent R i j) (M.ent R' i j) else M.ent R i j))) :=
            (congrArg (OwnM _ _ _) (M.mk_congr fun i _ j hj => by
              by_cases e : i < k + 1
              · rw [if_pos e, if_pos (by omega)]
              · rw [if_neg e, if_neg (by omega)])).mp HOi.out
          obtain ⟨g, o, ra, rc, L3, l3, rfl, -, hl3, hc3, hI3⟩ := HOi.out.mat.at k hlt
          have e3 : L3 = t := by rw [← hI3.1, hl3, M.mk_rowlen _ _ _ _ hlt]
          subst e3
          clear hl3 hI3
          go_wp2
          go_roundw
          case rel => exact ⟨k + 1, by omega, by go_num, HO2.out, HBi.out⟩
          case measure => simp [intOf]; omega
    · obtain rfl : k = n := by omega
      go_wp2
      go_ret
      refine ⟨_, _, rfl, ?_, HB.out⟩
      exact (congrArg (OwnM _ _ _) (M.mk_congr fun i hi j _ => by rw [if_pos hi])).mp HO.out
theorem sAddM (a : Option Addr) (n cap : Nat) (R : List (List Int)) (a' : Option Addr) (n' cap' : Nat) (R' : List (List Int)) (w : World) (h : Mat w a n R) (h' : Mat w a' n' R') (hR : M.isMat R = true) (hR' : M.isMat R' = true) (hl : n = n') (hw : M.wid R = M.wid R') :
    Calls Try.prog 120 #[.slice a n cap, .slice a' n' cap'] w (MPost n (M.addM R R') w) := by
  subst hl
  obtain ⟨m1, m2, c1, c2, -, -⟩ := M.isMat_t hR
  have e1 := h.1
  have e2 := h'.1
  have t1 := rect_mat hR
  have t2 := rect_mat hR'
  rw [e1] at t1 m1 m2
  rw [e2, ← hw] at t2
  have := sAddB a n cap R a' cap' R' _ w h h' t1 t2 m1 m2 c1 c2
  unfold M.addM
  rw [e1]
  exact this

set_option maxRecDepth 100000 in
set_option maxHeartbeats 1000000 in
theorem sAddMatrices (a : Option Addr) (n cap : Nat) (R : List (List Int)) (a' : Option Addr) (n' cap' : Nat) (R' : List (List Int)) (w : World) (h : Mat w a n R) (h' : Mat w a' n' R') :
    Calls Try.prog 51 #[.slice a n cap, .slice a' n' cap'] w (MRes (M.addRes R R') w) := by
  have HA := Lib.hid h
  have HA' := Lib.hid h'
  by_cases hR : M.isMat R = true
  · have HR := Lib.hid hR
    by_cases hR' : M.isMat R' = true
    · have HR' := Lib.hid hR'
      by_cases hl : n = n'
      · subst hl
        have m1 := (M.isMat_t hR).1
        rw [h.1] at m1
        obtain ⟨b, off, ra, L, rc, rfl, hL, hc⟩ := h.first (by omega)
        obtain ⟨b', off', ra', L', rc', rfl, hL', hc'⟩ := h'.first (by omega)
        by_cases hw : M.wid R = M.wid R'
        · have HE : Hid (M.addRes R R' = (M.addM R R', 0)) := by
            show _ = _; unfold M.addRes; rw [hR, hR', if_pos (by rfl), if_pos ⟨by rw [h.1, h'.1], hw⟩]
          have HWW := Lib.hid hw
          obtain rfl : L = L' := by rw [hL, hL', hw]
          clear h h' hR hR' hw hL hL'
          go_enter Try.func51, Try.ntmps51
          go_wp2_with fail
          refine (sIsMatrix_b _ _ _ R _ true HR.out HA.out).mono ?_
          rintro e w' ⟨rfl, q1, rfl⟩
          go_wp2_with fail
          refine (sIsMatrix_b _ _ _ R' _ true HR'.out (by exact HA'.out)).mono ?_
          rintro e w' ⟨rfl, q2, rfl⟩
          go_wp2_with fail
          go_quiet (fail)
          go_wp2_with fail
          refine (sAddM _ _ _ R _ _ _ R' _ (by exact HA.out) (by exact HA'.out) HR.out HR'.out rfl HWW.out).mono ?_
          rintro e w1 ⟨a1, c1, rfl, ho, hb⟩
          have HO : Hid (OwnM w1 w.heap.size (.slice a1 n c1) (M.addM R R')) := ho
          have HB : Hid (Below w.heap.size w w1) := (b_draws w _).trans hb
          clear ho hb
          go_wp2
          go_ret2
          rw [HE.out]
          exact ⟨_, _, _, rfl, HO.out, HB.out⟩
        · have HE : Hid (M.addRes R R' = ([], 5)) := by
            show _ = _; unfold M.addRes; rw [hR, hR', if_pos (by rfl), if_neg (fun hh => hw hh.2)]
          have hne : (L == L') = false := by rw [hL, hL']; simpa using hw
          have hne2 : (L != L') = true := by rw [hL, hL']; simpa using hw
          clear h h' hR hR' hw hL hL'
          go_enter Try.func51, Try.ntmps51
          go_wp2_with fail
          refine (sIsMatrix_b _ _ _ R _ true HR.out HA.out).mono ?_
          rintro e w' ⟨rfl, q1, rfl⟩
          go_wp2_with fail
          refine (sIsMatrix_b _ _ _ R' _ true HR'.out (by exact HA'.out)).mono ?_
          rintro e w' ⟨rfl, q2, rfl⟩
          go_wp2_with fail
          go_quiet (fail)
          go_wp2
          go_ret2
          exact MRes.nil HE.out (below_drewN (b_draws _ _) _)
      · have HE : Hid (M.addRes R R' = ([], 5)) := by
          show _ = _; unfold M.addRes; rw [hR, hR', if_pos (by rfl), if_neg (fun hh => hl (by rw [← h.1, ← h'.1, hh.1]))]
        have hne : (n == n') = false := by simpa using hl
        have hne2 : (n != n') = true := by simpa using hl
        have hne3 : ((n : Int) != (n' : Int)) = true := by simp; omega
        clear h h' hR hR'
        go_enter Try.func51, Try.ntmps51
        go_wp2_with fail
        refine (sIsMatrix_b _ _ _ R _ true HR.out HA.out).mono ?_
        rintro e w' ⟨rfl, q1, rfl⟩
        go_wp2_with fail
        refine (sIsMatrix_b _ _ _ R' _ true HR'.out (by exact HA'.out)).mono ?_
        rintro e w' ⟨rfl, q2, rfl⟩
        go_wp2_with fail
        go_quiet (fail)
        go_wp2
        go_ret2
        exact MRes.nil HE.out (below_drewN (b_draws _ _) _)
    · simp only [Bool.not_eq_true] at hR'
      have HE : Hid (M.addRes R R' = ([], 1)) := by
        show _ = _; unfold M.addRes; rw [hR, hR', if_neg (by simp)]
      have HR' := Lib.hid hR'
      clear h h' hR hR'
      go_enter Try.func51, Try.ntmps51
      go_wp2_with fail
      refine (sIsMatrix_b _ _ _ R _ true HR.out HA.out).mono ?_
      rintro e w' ⟨rfl, q1, rfl⟩
      go_wp2_with fail
      refine (sIsMatrix_b _ _ _ R' _ false HR'.out (by exact HA'.out)).mono ?_
      rintro e w' ⟨rfl, q2, rfl⟩
      go_wp2
      go_ret2
      exact MRes.nil HE.out (b_draws _ _)
  · simp only [Bool.not_eq_true] at hR
    have HR := Lib.hid hR
    have HE : Hid (M.addRes R R' = ([], 1)) := by
      show _ = _; unfold M.addRes; rw [hR, if_neg (by simp)]
    clear h h' hR
    go_enter Try.func51, Try.ntmps51
    go_wp2_with fail
    refine (sIsMatrix_b _ _ _ R _ false HR.out HA.out).mono ?_
    rintro e w' ⟨rfl, q1, rfl⟩
    go_wp2
    go_ret2
    exact MRes.nil HE.out (b_draws _ _)
end Go.Proofs.Ytjljplolonpldaa.V

namespace Go.Proofs.Ytjljplolonpldaa.V
open Go.RowKit

set_option maxRecDepth 100000 in
set_option maxHeartbeats 1000000 in
theorem clone (a : Option Addr) (n cap : Nat) (l : List Int) (w : World) (h : Ints .i64 w a n l) (h0 : 0 < n) (hn : n ≤ 1000) :
    Calls Try.prog 98 #[.slice a n cap] w fun e w' => ∃ b c, e = .returned (.slice b n c) ∧ Own w' w.heap.size (.slice b n c) l ∧ Below w.heap.size w w' := by
  obtain ⟨hl, hm, hr⟩ := h
  rcases hr with hr | ⟨b, off, rfl, hb, hc⟩
  · omega
  have HL := Lib.hid hl
  have HC := Lib.hid hc
  have HO : Hid (Own (w.alloc (.cells #[] 2)) w.heap.size (.slice (some ⟨w.heap.size, 0, none⟩) 0 0) []) := own_lit0 w _ (Nat.le_refl _)
  obtain ⟨i0, hi, hz0, hz1, hz2⟩ := info_parts info64
  clear hl hc hm
  have HI := Lib.hid hi
  clear hi
  have hnil := fun w : World => Lib.run_eql_slice_nil (P := Try.prog) w 29 2 (some (⟨b, off, none⟩ : Addr)) n cap 0 0 Try.underlying29
  go_enter Try.func98, Try.ntmps98
  go_wp2_with (at_builtin; refine wpList_append_own_at (w := w.alloc (.cells #[] 2)) rfl (.tmp 5) (.tmp 6) 29 rfl w.heap.size 2 i0 (.int .i64 0) 1 8 Try.underlying29 HI.out hz0 hz1 hz2 rfl (by decide) (.slice (some ⟨w.heap.size, 0, none⟩) 0 0) 0 [] rfl HO.out ⟨b, off, none⟩ n cap (l.map (Value.int .i64)) rfl ?c0 ?c1 ?c2 ?c3 ?c4 ?c5 ?_)
  case c0 => have := HL.out; simp [this]
  case c1 =>
    refine ints_cells (fun i hi' => ?_) HL.out
    rw [(b_alloc w _).cell (p := ⟨b, off + i, none⟩) hb]; exact HC.out i hi'
  case c2 => intro u hu; obtain ⟨x, _, rfl⟩ := List.mem_map.1 hu; rfl
  case c3 => unfold maxLen; omega
  case c4 => omega
  case c5 => simp
  intro v' w' ho hg hz hv
  have ho' : Own w' w.heap.size v' l := by
    show w'.ownsRow w.heap.size _ 1 v' l.length (l.map (Value.int .i64))
    rw [HL.out]
    simpa using ho
  obtain ⟨b', c', rfl, _⟩ := own_form ho'
  rw [HL.out] at ho' ⊢
  have HB : Hid (Below w.heap.size w w') := (b_alloc w _).grown hg (by simp) (fun k hk => by simp [Value.ownBlock] at hk; omega)
  have HO' := Lib.hid ho'
  clear ho ho' hg hz hv
  go_wp2
  go_ret
  exact ⟨_, _, rfl, HO'.out, HB.out⟩


/-- Three entries of an owned square matrix, of which the first is written. -/
theorem OwnM.tri {w : World} {B n cap : Nat} {a : Option Addr} {R : List (List Int)} (h : OwnM w B (.slice a n cap) R) (hr : Rect R n n) (i j k : Nat) (hi : i < n) (hj : j < n) (hk : k < n) :
    ∃ g q c q' c', a = some ⟨g, 0, none⟩ ∧ B ≤ q ∧ w.cell? ⟨g, i, none⟩ = some (.slice (some ⟨q, 0, none⟩) n c) ∧ w.cell? ⟨q, j, none⟩ = some (.int .i64 (M.ent R i j)) ∧ w.cell? ⟨q, k, none⟩ = some (.int .i64 (M.ent R i k)) ∧
      w.cell? ⟨g, k, none⟩ = some (.slice (some ⟨q', 0, none⟩) n c') ∧ w.cell? ⟨q', j, none⟩ = some (.int .i64 (M.ent R k j)) ∧ w.frozen? ⟨q, j, none⟩ = false ∧
      ∀ y, OwnM (w.setCell ⟨q, j, none⟩ (.int .i64 y)) B (.slice a n cap) (R.set i ((R.getD i []).set j y)) := by
  obtain ⟨g, q, L, c, x, rfl, _, hq, hL, hx, h1, h2, h3, h4⟩ := h.at i j hi (by rw [hr.2 i hi]; exact hj)
  obtain ⟨g2, q2, L2, c2, x2, e, _, _, hL2, hx2, k1, k2, _, _⟩ := h.at i k hi (by rw [hr.2 i hi]; exact hk)
  injection e with e
  injection e with e
  subst e
  rw [h1] at k1
  injection k1 with k1
  injection k1 with k1 _ _
  injection k1 with k1
  injection k1 with k1
  subst k1
  obtain ⟨g3, q3, L3, c3, x3, e, _, _, hL3, hx3, m1, m2, _, _⟩ := h.at k j hk (by rw [hr.2 k hk]; exact hj)
  injection e with e
  injection e with e
  subst e
  rw [hr.2 i hi] at hL
  rw [hr.2 k hk] at hL3
  subst hL hL3 hx hx2 hx3
  exact ⟨g, q, c, q3, c3, rfl, hq, h1, h2, k2, m1, m2, h3, h4⟩
end Go.Proofs.Ytjljplolonpldaa.V

namespace Go.Proofs.Ytjljplolonpldaa
namespace M
/-- The least number from k on that fits, within so many. -/
def lv (p : Nat → Bool) : Nat → Nat → Nat
  | 0, k => k
  | f + 1, k => if p k then k else lv p f (k + 1)
theorem lv_is {p : Nat → Bool} {m : Nat} (hm : p m = true) (f : Nat) : ∀ k, k ≤ m → m < k + f → (∀ v, k ≤ v → v < m → p v = false) → lv p f k = m := by
  induction f with
  | zero => intro k h1 h2; omega
  | succ f ih =>
    intro k h1 h2 h3
    by_cases e : k = m
    · subst e; show (if p k then k else _) = _; rw [if_pos hm]
    · show (if p k then k else _) = _
      rw [h3 k (Nat.le_refl _) (by omega), if_neg (by simp)]
      exact ih (k + 1) (by omega) (by omega) fun v h4 h5 => h3 v (by omega) h5
theorem lv_ex {p : Nat → Bool} {n : Nat} (h : ∃ m, m < n ∧ p m = true) : p (lv p n 0) = true ∧ lv p n 0 < n ∧ ∀ v, v < lv p n 0 → p v = false := by
  have key : ∀ n, (∃ m, m < n ∧ p m = true) → ∃ m, m < n ∧ p m = true ∧ ∀ v, v < m → p v = false := by
    intro n
    induction n with
    | zero => rintro ⟨m, hm, _⟩; omega
    | succ n ih =>
      rintro ⟨m, hm, hp⟩
      by_cases e : ∃ m, m < n ∧ p m = true
      · obtain ⟨m, h1, h2, h3⟩ := ih e
        exact ⟨m, by omega, h2, h3⟩
      · refine ⟨m, hm, hp, fun v hv => ?_⟩
        cases h : p v with
        | false => rfl
        | true => exact absurd ⟨v, by omega, h⟩ e
  obtain ⟨m, h1, h2, h3⟩ := key n h
  rw [lv_is h2 n 0 (Nat.zero_le _) (by omega) fun v _ hv => h3 v hv]
  exact ⟨h2, h1, h3⟩
/-- Whether a heaviest path with s + 1 arcs goes on from x by v. -/
def stepB (A : Nat → Nat → Int) (n t s x v : Nat) : Bool := decide (times (cpw A n s t v) (A v x) = cpw A n (s + 1) t x)
def nxt (A : Nat → Nat → Int) (n t s x : Nat) : Nat := lv (stepB A n t s x) n 0
/-- The number of arcs. -/
def arcs (A : Nat → Nat → Int) (n f t : Nat) : Nat := lv (fun s => decide (cpw A n s t f = starF A n t f)) 11 0
/-- The nodes of the path. -/
def xs (A : Nat → Nat → Int) (n t s f : Nat) : Nat → Nat
  | 0 => f
  | k + 1 => nxt A n t (s - 1 - k) (xs A n t s f k)
def hvL (A : Nat → Nat → Int) (n t s f : Nat) (k : Nat) : List Int := (List.range k).map fun i => ((xs A n t s f i : Nat) : Int)
def heavyRes (R : List (List Int)) (f t : Int) : List Int × Int :=
  if sqB R then (if inN R.length f && inN R.length t then (if noPos (ent R) R.length then (if starF (ent R) R.length t.toNat f.toNat = -1000000000000000 then ([], 4)
    else (hvL (ent R) R.length t.toNat (arcs (ent R) R.length f.toNat t.toNat) f.toNat (arcs (ent R) R.length f.toNat t.toNat + 1), 0)) else ([], 5)) else ([], 2)) else ([], 1)
theorem hvL_len (A : Nat → Nat → Int) (n t s f k : Nat) : (hvL A n t s f k).length = k := by simp [hvL]
theorem hvL_succ (A : Nat → Nat → Int) (n t s f k : Nat) : hvL A n t s f (k + 1) = hvL A n t s f k ++ [((xs A n t s f k : Nat) : Int)] := by
  unfold hvL; rw [List.range_succ]; simp
theorem hvL_at (A : Nat → Nat → Int) (n t s f k i : Nat) (h : i < k) : (hvL A n t s f k).getD i 0 = ((xs A n t s f i : Nat) : Int) := by
  simp [hvL, h]
theorem lv_le (p : Nat → Bool) (f : Nat) : ∀ k, lv p f k ≤ k + f := by
  induction f with
  | zero => intro k; exact Nat.le_refl _
  | succ f ih =>
    intro k
    show (if p k then k else _) ≤ _
    split
    · omega
    · have := ih (k + 1); omega
theorem heavyRes_len (R : List (List Int)) (f t : Int) : (heavyRes R f t).1.length ≤ 12 := by
  unfold heavyRes
  split
  · split
    · split
      · split
        · simp
        · rw [hvL_len]
          have := lv_le (fun s => decide (cpw (ent R) R.length s t.toNat f.toNat = starF (ent R) R.length t.toNat f.toNat)) 11 0
          unfold arcs
          omega
      · simp
    · simp
  · simp
section
variable {A : Nat → Nat → Int} {n : Nat} (hn : n ≤ 10) (hA : ∀ i j, i < n → j < n → Sm 1000001000000 (A i j))
include hn hA
/-- There is a number of arcs with which the weight in the star is reached. -/
theorem arcs_is (hp : noPos A n = true) {f t : Nat} (hf : f < n) (ht : t < n) (h : starF A n t f ≠ -1000000000000000) :
    cpw A n (arcs A n f t) t f = starF A n t f ∧ arcs A n f t ≤ 10 ∧ ∀ s, s < arcs A n f t → cpw A n s t f ≠ starF A n t f := by
  have hd := o_diag hn hA hp
  have e1 : o (starF A n t f) = obm (fun i j => o (A i j)) n n t f := by
    unfold starF
    rw [← clo_star hn hA hp ht hf, o_cbm hA n (by omega) t f ht hf]
  obtain ⟨s, hs, hle⟩ := opw_star (f := fun i j => o (A i j)) ht hf (by rw [← e1]; exact fun e => h (o_none.1 e))
  have hge := opw_le hd ht hf s
  have e2 := ole_anti hge hle
  rw [← o_cpw hA s (by omega) t f ht hf, ← e1] at e2
  have e3 := o_inj e2
  obtain ⟨h1, h2, h3⟩ := lv_ex (p := fun s => decide (cpw A n s t f = starF A n t f)) (n := 11) ⟨s, by omega, by simpa using e3⟩
  refine ⟨of_decide_eq_true h1, by unfold arcs; omega, fun s hs => ?_⟩
  have := h3 s hs
  simpa using this
end
section
variable {A : Nat → Nat → Int} {n : Nat} (hA : ∀ i j, i < n → j < n → Sm 1000001000000 (A i j))
include hA
/-- A heaviest path with more than no arcs goes on. -/
theorem nxt_is {t s x : Nat} (hs : s ≤ 10) (ht : t < n) (hx : x < n) (h : cpw A n (s + 1) t x ≠ -1000000000000000) :
    nxt A n t s x < n ∧ times (cpw A n s t (nxt A n t s x)) (A (nxt A n t s x) x) = cpw A n (s + 1) t x ∧ ∀ v, v < nxt A n t s x → times (cpw A n s t v) (A v x) ≠ cpw A n (s + 1) t x := by
  have hex : ∃ v, v < n ∧ stepB A n t s x v = true := by
    have e := o_cpw hA (s + 1) (by omega) t x ht hx
    rcases osum_att n (fun u => omul (opw (fun i j => o (A i j)) n s t u) (o (A u x))) with k | ⟨u, hu, k⟩
    · exact absurd (o_none.1 (e.trans k)) h
    · refine ⟨u, hu, ?_⟩
      unfold stepB
      rw [decide_eq_true_eq]
      refine o_inj ?_
      rw [o_times (cpw_sm hA s t u ht hu) (hA u x hu hx) (by omega) (by omega), o_cpw hA s (by omega) t u ht hu]
      exact (e.trans k).symm
  obtain ⟨h1, h2, h3⟩ := lv_ex hex
  refine ⟨h2, of_decide_eq_true h1, fun v hv => ?_⟩
  have := h3 v hv
  simpa [stepB] using this
theorem nxt_fin {t s x : Nat} (hs : s ≤ 10) (ht : t < n) (hx : x < n) (h : cpw A n (s + 1) t x ≠ -1000000000000000) :
    cpw A n s t (nxt A n t s x) ≠ -1000000000000000 ∧ A (nxt A n t s x) x ≠ -1000000000000000 := by
  obtain ⟨h1, h2, -⟩ := nxt_is hA hs ht hx h
  refine ⟨fun e => h ?_, fun e => h ?_⟩
  · rw [← h2, e, bot_times]
  · rw [← h2, e, times_bot]
/-- Along the path the rest stays a heaviest one. -/
theorem xs_inv {t s f : Nat} (hs : s ≤ 10) (ht : t < n) (hf : f < n) (h : cpw A n s t f ≠ -1000000000000000) (k : Nat) (hk : k ≤ s) :
    xs A n t s f k < n ∧ cpw A n (s - k) t (xs A n t s f k) ≠ -1000000000000000 := by
  induction k with
  | zero => exact ⟨hf, h⟩
  | succ k ih =>
    obtain ⟨h1, h2⟩ := ih (by omega)
    have e : s - k = s - 1 - k + 1 := by omega
    rw [e] at h2
    show nxt A n t (s - 1 - k) (xs A n t s f k) < n ∧ cpw A n (s - (k + 1)) t (nxt A n t (s - 1 - k) (xs A n t s f k)) ≠ _
    rw [show s - (k + 1) = s - 1 - k by omega]
    exact ⟨(nxt_is hA (by omega) ht h1 h2).1, (nxt_fin hA (by omega) ht h1 h2).1⟩
/-- What is left of the weight. -/
theorem xs_need {t s f : Nat} (hs : s ≤ 10) (ht : t < n) (hf : f < n) (h : cpw A n s t f ≠ -1000000000000000) (k : Nat) (hk : k < s) :
    cpw A n (s - (k + 1)) t (xs A n t s f (k + 1)) = cpw A n (s - k) t (xs A n t s f k) - A (xs A n t s f (k + 1)) (xs A n t s f k) := by
  obtain ⟨h1, h2⟩ := xs_inv hA hs ht hf h k (by omega)
  have e : s - k = s - 1 - k + 1 := by omega
  rw [e] at h2
  have h3 := (nxt_is hA (by omega) ht h1 h2).2.1
  have h4 := nxt_fin hA (by omega) ht h1 h2
  rw [show s - (k + 1) = s - 1 - k by omega, e]
  show cpw A n (s - 1 - k) t (nxt A n t (s - 1 - k) (xs A n t s f k)) = _ - A (nxt A n t (s - 1 - k) (xs A n t s f k)) _
  unfold times at h3
  rw [if_neg (by rintro (e | e); exact h4.1 e; exact h4.2 e)] at h3
  omega
theorem xs_end {t s f : Nat} (hs : s ≤ 10) (ht : t < n) (hf : f < n) (h : cpw A n s t f ≠ -1000000000000000) : xs A n t s f s = t := by
  obtain ⟨h1, h2⟩ := xs_inv hA hs ht hf h s (Nat.le_refl _)
  rw [Nat.sub_self] at h2
  have h2 : unit t (xs A n t s f s) ≠ -1000000000000000 := h2
  unfold unit at h2
  split at h2
  · next e => exact e.symm
  · exact absurd rfl h2
end
end M
end Go.Proofs.Ytjljplolonpldaa
