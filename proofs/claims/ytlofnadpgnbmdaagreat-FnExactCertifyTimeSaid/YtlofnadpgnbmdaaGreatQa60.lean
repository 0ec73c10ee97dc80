/- Texts laid together: Crb, Crc, Crd, Cre. -/
import Derived.Test.YtlofnadpgnbmdaaGreatQa56
import Derived.Test.YtlofnadpgnbmdaaGreatQa46
import Derived.Test.YtlofnadpgnbmdaaGreatQa17
import Derived.Test.YtlofnadpgnbmdaaGreatQa20
import Derived.Deep.AppendLies
import Derived.Test.YtlofnadpgnbmdaaGreatQa18
set_option linter.unusedSimpArgs false
set_option linter.unusedVariables false
set_option linter.unusedSectionVars false
namespace Go.Proofs.YtlofnadpgnbmdaaGreat.V
set_option maxRecDepth 100000
open Go Go.RowKit

def srF (x first : Int) (ga lv : Value) (U : Nat → Bool) (y : Nat) : Nat → Value := fun i => if i = 0 then .int .i64 x else if i = 1 then ga else if i = 2 then .int .i64 first else if i = 3 then lv else if i = 14 then .func (.yield y) #[] #[] else .bool (U (i - 4))
/-- Block S is a search that stands at the list lv, with U marked. -/
def Sr (W : World) (S : Nat) (x : Int) (ga : Value) (first : Int) (lv : Value) (U : Nat → Bool) (y : Nat) : Prop := W.rowIs S 165 15 (srF x first ga lv U y)
section
variable {W : World} {S y : Nat} {x first : Int} {ga lv : Value} {U : Nat → Bool}
theorem Sr.c0 (h : Sr W S x ga first lv U y) : W.cell? ⟨S, 0, none⟩ = some (.int .i64 x) := World.rowIs.cell h (i := 0) (by omega)
theorem Sr.c1 (h : Sr W S x ga first lv U y) : W.cell? ⟨S, 1, none⟩ = some ga := World.rowIs.cell h (i := 1) (by omega)
theorem Sr.c2 (h : Sr W S x ga first lv U y) : W.cell? ⟨S, 2, none⟩ = some (.int .i64 first) := World.rowIs.cell h (i := 2) (by omega)
theorem Sr.c3 (h : Sr W S x ga first lv U y) : W.cell? ⟨S, 3, none⟩ = some lv := World.rowIs.cell h (i := 3) (by omega)
theorem Sr.c14 (h : Sr W S x ga first lv U y) : W.cell? ⟨S, 14, none⟩ = some (.func (.yield y) #[] #[]) := World.rowIs.cell h (i := 14) (by omega)
theorem Sr.lt (h : Sr W S x ga first lv U y) : S < W.heap.size := World.rowIs.lt h
theorem Sr.fz (h : Sr W S x ga first lv U y) (j : Nat) : W.frozen? ⟨S, j, none⟩ = false := World.rowIs.frozen h j
theorem Sr.cU (h : Sr W S x ga first lv U y) (k : Nat) (hk : k < 10) : W.cell? ⟨S, 4 + k, none⟩ = some (.bool (U k)) := by
  have := World.rowIs.cell h (i := 4 + k) (by omega)
  rw [this]
  unfold srF
  rw [if_neg (by omega), if_neg (by omega), if_neg (by omega), if_neg (by omega), if_neg (by omega), show 4 + k - 4 = k by omega]
theorem Sr.setFirst (h : Sr W S x ga first lv U y) (f' : Int) : Sr (W.setCell ⟨S, 2, none⟩ (.int .i64 f')) S x ga f' lv U y :=
  (World.rowIs.set h 2 _).congr fun i hi => by
    unfold srF
    by_cases e : i = 2
    · subst e; simp
    · simp [e]
theorem Sr.setList (h : Sr W S x ga first lv U y) (v' : Value) : Sr (W.setCell ⟨S, 3, none⟩ v') S x ga first v' U y :=
  (World.rowIs.set h 3 _).congr fun i hi => by
    unfold srF
    by_cases e : i = 3
    · subst e; simp
    · simp [e]
theorem Sr.setUsed (h : Sr W S x ga first lv U y) (k : Nat) (hk : k < 10) (b : Bool) : Sr (W.setCell ⟨S, 4 + k, none⟩ (.bool b)) S x ga first lv (fun i => if i = k then b else U i) y :=
  (World.rowIs.set h (4 + k) (.bool b)).congr fun i hi => by
    unfold srF
    by_cases e : i = 4 + k
    · subst e
      rw [if_pos rfl, if_neg (by omega), if_neg (by omega), if_neg (by omega), if_neg (by omega), if_neg (by omega), show 4 + k - 4 = k by omega]
      show Value.bool b = Value.bool (if k = k then b else U k)
      rw [if_pos rfl]
    · rw [if_neg e]
      by_cases e0 : i = 0
      · rw [if_pos e0, if_pos e0]
      · rw [if_neg e0, if_neg e0]
        by_cases e1 : i = 1
        · rw [if_pos e1, if_pos e1]
        · rw [if_neg e1, if_neg e1]
          by_cases e2 : i = 2
          · rw [if_pos e2, if_pos e2]
          · rw [if_neg e2, if_neg e2]
            by_cases e3 : i = 3
            · rw [if_pos e3, if_pos e3]
            · rw [if_neg e3, if_neg e3]
              show _ = (if i = 14 then _ else Value.bool (if i - 4 = k then b else U (i - 4)))
              rw [if_neg (show ¬ i - 4 = k by omega)]
theorem Sr.block {B : World} (h : Sr W S x ga first lv U y) (e : B.heap[S]? = W.heap[S]?) : Sr B S x ga first lv U y := World.rowIs.of_block h e
theorem Sr.congrU {V : Nat → Bool} (h : Sr W S x ga first lv U y) (e : ∀ i, U i = V i) : Sr W S x ga first lv V y := by
  have : U = V := funext e
  subst this; exact h
/-- An owned slice of integers lies apart from the search. -/
theorem Sr.apart {B q : Nat} {v : Value} {p : List Int} (h : Sr W S x ga first lv U y) (ho : Own W B v p) (hv : v.ownBlock = some q) : q ≠ S := by
  rintro rfl
  obtain ⟨cs, hb, -, -⟩ := h
  obtain ⟨-, ⟨hn, -⟩ | ⟨g', cap', cur, hn, -, hg, -⟩⟩ := ho
  · subst hn; cases hv
  · subst hn
    have hv : g' = q := by injection hv
    subst hv
    rw [hb] at hg
    injection hg with hg
    injection hg with h1 h2 h3
    revert h2
    decide
end
/-- One integer is appended to an owned list of the named type. -/
theorem step_appendC (w : World) {ops : Array Oper} {o : Oper} {a : Act} {K : Act → World → Prop} {Q : Exit → Act → World → Prop} {E : Prop} (hgd : o.guard = none) (s x : Operand)
    (ho : o.op = .call { callee := .builtin .append, args := #[s, x], argTypes := #[92, 92] }) (B : Nat) (v : Value) (l : List Int) (y : Int) (g n : Nat) (hn : l.length = n) (hs : a.eval s = v) (hown : Own w B v l)
    (hx : a.eval x = .slice (some ⟨g, 0, none⟩) 1 1) (hy : w.cell? ⟨g, 0, none⟩ = some (.int .i64 y)) (hlen : n ≤ 2000000) (hB : B ≤ w.heap.size)
    (h : ∀ b' c' w', Own w' B (.slice (some ⟨b', 0, none⟩) (n + 1) c') (l ++ [y]) → Below B w w' → (∀ k, k < w.heap.size → v.ownBlock ≠ some k → w'.heap[k]? = w.heap[k]?) → (v.ownBlock = some b' ∨ b' = w.heap.size) → K (a.put o.dst (.slice (some ⟨b', 0, none⟩) (n + 1) c')) w') :
    if Region.wanted o (yielded ops a.tmps) = true then Oper.wp Tryz.prog o a w K Q else E := by
  subst hn
  obtain ⟨i0, hi, hz0, hz1, hz2⟩ := info_parts info64
  refine step_append_lies w hgd s x 92 ho B 2 i0 (.int .i64 0) 1 8 Tryz.underlying92 hi hz0 hz1 hz2 rfl (by decide) v l.length (l.map (Value.int .i64)) hs hown ⟨g, 0, none⟩ 1 1 [.int .i64 y] hx rfl ?c1 ?c2 (by decide) ?c3 ?c4 hB w.heap.size rfl ?_
  case c1 =>
    intro j u hj
    have : j = 0 := by
      cases j with
      | zero => rfl
      | succ j => simp at hj
    subst this
    simp at hj
    subst hj
    exact hy
  case c2 => intro u hu; simp at hu; subst hu; rfl
  case c3 => unfold maxLen; omega
  case c4 => omega
  · intro g' cap' w' hown' hgrow hat hlt
    have ho' : Own w' B (.slice (some ⟨g', 0, none⟩) (l.length + 1) cap') (l ++ [y]) := by
      show w'.ownsRow B _ 1 _ (l ++ [y]).length ((l ++ [y]).map (Value.int .i64))
      simpa using hown'
    refine h _ _ w' ho' ((Below.refl B w).grown hgrow hB (fun k hk => (own_lt hown hk).1)) (fun k hk hne => ?_) hat
    obtain ⟨g1, g2, g3, g4, g5⟩ := hgrow
    exact g5 k hk (fun e => hne e.symm)
/-- The block of the list in a variable. -/
def bbOf (Bx : Nat) (W : World) : Option Nat := (W.cell? ⟨Bx, 0, none⟩).bind Value.ownBlock
theorem bbOf_eq {Bx : Nat} {A B : World} (e : B.heap[Bx]? = A.heap[Bx]?) : bbOf Bx B = bbOf Bx A := by unfold bbOf; rw [World.cell?_of_block (a := ⟨Bx, 0, none⟩) e]
/-- What the caller's variables hold when the circuits ys have been seen. -/
def JB (w0 : World) (Bx Gx Gb Gc : Nat) (l : List M.Pc) (x : Int) (a : Option Addr) (n cap : Nat) (ys : List (List Int)) (W : World) : Prop :=
  Below w0.heap.size w0 W ∧ W.frozen? ⟨Bx, 0, none⟩ = false ∧ GBox W Gb x a n cap ∧ GBox W Gc x a n cap ∧
  ((ys = [] ∧ W.cell? ⟨Bx, 0, none⟩ = some (.slice none 0 0) ∧ RR W Gx (0, 0)) ∨
   (ys ≠ [] ∧ ∃ b m c, W.cell? ⟨Bx, 0, none⟩ = some (.slice (some ⟨b, 0, none⟩) m c) ∧ Own W (Gc + 3) (.slice (some ⟨b, 0, none⟩) m c) (M.bstL l ys) ∧ RR W Gx (M.cirQ l (M.bstL l ys)) ∧ M.cirB l (M.bstL l ys) = true))
/-- How the blocks of a search lie. -/
def CK (w0 : World) (Bx Gx Gb Gc D S : Nat) : Prop := w0.heap.size ≤ Bx ∧ w0.heap.size ≤ Gx ∧ Bx < D ∧ Gx < D ∧ Gb < D ∧ Gc < D ∧ D + 2 ≤ S ∧ Gb ≠ Bx ∧ Gb ≠ Gx ∧ Gc ≠ Bx ∧ Gc ≠ Gx ∧ Bx ≠ Gx ∧ D = Gc + 1
/-- All that the caller's variables hold is kept. -/
def Ch (D : Nat) (r : Option Nat) (A B : World) : Prop := B.os = A.os ∧ B.tape = A.tape ∧ B.output = A.output ∧ A.heap.size ≤ B.heap.size ∧ ∀ k, k < A.heap.size → (k < D ∨ r = some k) → B.heap[k]? = A.heap[k]?
theorem Ch.of_below {D : Nat} {r : Option Nat} {A B : World} (h : Below A.heap.size A B) : Ch D r A B := ⟨h.os, h.tape, h.output, h.size, fun k hk _ => h.block k hk⟩
theorem JB.lt {w0 : World} {Bx Gx Gb Gc : Nat} {l : List M.Pc} {x : Int} {a : Option Addr} {n cap : Nat} {ys : List (List Int)} {W : World} (h : JB w0 Bx Gx Gb Gc l x a n cap ys W) : Bx < W.heap.size ∧ Gx < W.heap.size := by
  obtain ⟨-, -, -, -, ⟨-, h1, h2⟩ | ⟨-, b, m, c, h1, -, h2, -⟩⟩ := h
  · exact ⟨cell_lt h1, h2.lt⟩
  · exact ⟨cell_lt h1, h2.lt⟩
theorem JB.ch {w0 : World} {Bx Gx Gb Gc D S : Nat} {l : List M.Pc} {x : Int} {a : Option Addr} {n cap : Nat} {ys : List (List Int)} {A B : World} (hC : CK w0 Bx Gx Gb Gc D S) (h : JB w0 Bx Gx Gb Gc l x a n cap ys A) (hh : Ch D (bbOf Bx A) A B) : JB w0 Bx Gx Gb Gc l x a n cap ys B ∧ bbOf Bx B = bbOf Bx A := by
  obtain ⟨c1, c2, c3, c4, c5, c6, c7, -⟩ := hC
  obtain ⟨hlt1, hlt2⟩ := h.lt
  obtain ⟨h1, h2, h3, h4, h5⟩ := h
  obtain ⟨k1, k2, k3, k4, k5⟩ := hh
  have eB := k5 Bx hlt1 (.inl c3)
  have eG := k5 Gx hlt2 (.inl c4)
  refine ⟨⟨⟨k1.trans h1.os, k2.trans h1.tape, k3.trans h1.output, Nat.le_trans h1.size k4, fun k hk => (k5 k (Nat.lt_of_lt_of_le hk h1.size) (.inl (by omega))).trans (h1.block k hk)⟩, (World.frozen?_of_block (a := ⟨Bx, 0, none⟩) eB).trans h2, h3.eq (k5 _ (cell_lt h3.1) (.inl c5)), h4.eq (k5 _ (cell_lt h4.1) (.inl c6)), ?_⟩, bbOf_eq eB⟩
  rcases h5 with ⟨q1, q2, q3⟩ | ⟨q1, b, m, c, q2, q3, q4, q5⟩
  · exact .inl ⟨q1, (World.cell?_of_block (a := ⟨Bx, 0, none⟩) eB).trans q2, q3.eq eG⟩
  · refine .inr ⟨q1, b, m, c, (World.cell?_of_block (a := ⟨Bx, 0, none⟩) eB).trans q2, ownsRow_keep q3 (fun r hr => ?_), q4.eq eG, q5⟩
    refine k5 r (own_lt q3 hr).2 (.inr ?_)
    unfold bbOf
    rw [q2]
    exact hr
/-- A better circuit is kept. -/
theorem JB.upd {w0 : World} {Bx Gx Gb Gc D S : Nat} {l : List M.Pc} {x : Int} {a : Option Addr} {n cap : Nat} {ys : List (List Int)} {V : World} {g m c : Nat} {p : List Int} (hC : CK w0 Bx Gx Gb Gc D S) (h : JB w0 Bx Gx Gb Gc l x a n cap ys V) (ho : Own V (Gc + 3) (.slice (some ⟨g, 0, none⟩) m c) p) (hb : M.bstL l (ys ++ [p]) = p) (hc : M.cirB l p = true) :
    JB w0 Bx Gx Gb Gc l x a n cap (ys ++ [p]) (((V.setCell ⟨Bx, 0, none⟩ (.slice (some ⟨g, 0, none⟩) m c)).setCell ⟨Gx, 0, none⟩ (.int .i64 (M.cirQ l p).1)).setCell ⟨Gx, 1, none⟩ (.int .i64 (M.cirQ l p).2)) ∧
    (∀ k, k ≠ Bx → k ≠ Gx → (((V.setCell ⟨Bx, 0, none⟩ (.slice (some ⟨g, 0, none⟩) m c)).setCell ⟨Gx, 0, none⟩ (.int .i64 (M.cirQ l p).1)).setCell ⟨Gx, 1, none⟩ (.int .i64 (M.cirQ l p).2)).heap[k]? = V.heap[k]?) ∧
    (((V.setCell ⟨Bx, 0, none⟩ (.slice (some ⟨g, 0, none⟩) m c)).setCell ⟨Gx, 0, none⟩ (.int .i64 (M.cirQ l p).1)).setCell ⟨Gx, 1, none⟩ (.int .i64 (M.cirQ l p).2)).heap.size = V.heap.size ∧
    bbOf Bx (((V.setCell ⟨Bx, 0, none⟩ (.slice (some ⟨g, 0, none⟩) m c)).setCell ⟨Gx, 0, none⟩ (.int .i64 (M.cirQ l p).1)).setCell ⟨Gx, 1, none⟩ (.int .i64 (M.cirQ l p).2)) = some g := by
  obtain ⟨c1, c2, c3, c4, c5, c6, c7, c8, c9, c10, c11, c12, c13⟩ := hC
  obtain ⟨h1, h2, h3, h4, h5⟩ := h
  obtain ⟨v0, hv0⟩ : ∃ v0, V.cell? ⟨Bx, 0, none⟩ = some v0 := by
    rcases h5 with ⟨-, q, -⟩ | ⟨-, b, m, c, q, -⟩ <;> exact ⟨_, q⟩
  obtain ⟨r0, hr0⟩ : ∃ r0, RR V Gx r0 := by
    rcases h5 with ⟨-, -, q⟩ | ⟨-, b, m, c, -, -, q, -⟩ <;> exact ⟨_, q⟩
  have hk : ∀ k, k ≠ Bx → k ≠ Gx → (((V.setCell ⟨Bx, 0, none⟩ (.slice (some ⟨g, 0, none⟩) m c)).setCell ⟨Gx, 0, none⟩ (.int .i64 (M.cirQ l p).1)).setCell ⟨Gx, 1, none⟩ (.int .i64 (M.cirQ l p).2)).heap[k]? = V.heap[k]? := fun k e1 e2 => by
    rw [Below.heap_setCell _ _ _ _ e2, Below.heap_setCell _ _ _ _ e2, Below.heap_setCell _ _ _ _ e1]
  have hB : ∀ k, k ≠ Gx → (((V.setCell ⟨Bx, 0, none⟩ (.slice (some ⟨g, 0, none⟩) m c)).setCell ⟨Gx, 0, none⟩ (.int .i64 (M.cirQ l p).1)).setCell ⟨Gx, 1, none⟩ (.int .i64 (M.cirQ l p).2)).heap[k]? = (V.setCell ⟨Bx, 0, none⟩ (.slice (some ⟨g, 0, none⟩) m c)).heap[k]? := fun k e2 => by
    rw [Below.heap_setCell _ _ _ _ e2, Below.heap_setCell _ _ _ _ e2]
  have hcell : (((V.setCell ⟨Bx, 0, none⟩ (.slice (some ⟨g, 0, none⟩) m c)).setCell ⟨Gx, 0, none⟩ (.int .i64 (M.cirQ l p).1)).setCell ⟨Gx, 1, none⟩ (.int .i64 (M.cirQ l p).2)).cell? ⟨Bx, 0, none⟩ = some (.slice (some ⟨g, 0, none⟩) m c) := by
    rw [World.cell?_of_block (a := ⟨Bx, 0, none⟩) (hB Bx c12)]
    exact World.cell?_setCell_same' _ _ _ (by rw [hv0]; rfl)
  have hgV : Gc + 3 ≤ g ∧ g < V.heap.size := own_lt ho rfl
  refine ⟨⟨((h1.setCell (p := ⟨Bx, 0, none⟩) c1 _).setCell (p := ⟨Gx, 0, none⟩) c2 _).setCell (p := ⟨Gx, 1, none⟩) c2 _, ?_, h3.eq (hk _ c8 c9), h4.eq (hk _ c10 c11), .inr ⟨by simp, g, m, c, hcell, ?_, ?_, by rw [hb]; exact hc⟩⟩, hk, by simp, by unfold bbOf; rw [hcell]; rfl⟩
  · rw [World.frozen?_of_block (a := ⟨Bx, 0, none⟩) (hB Bx c12)]
    simpa using h2
  · rw [hb]
    exact ownsRow_keep ho (fun q hq => by
      have : g = q := by injection hq
      subst this
      exact hk _ (by omega) (by omega))
  · rw [hb]
    exact (hr0.eq (Below.heap_setCell _ _ _ _ (Ne.symm c12))).put _ _
/-- A circuit that is no better is left. -/
theorem JB.same {w0 : World} {Bx Gx Gb Gc : Nat} {l : List M.Pc} {x : Int} {a : Option Addr} {n cap : Nat} {ys : List (List Int)} {V : World} {p : List Int} (h : JB w0 Bx Gx Gb Gc l x a n cap ys V) (hn : ys ≠ []) (hb : M.bstL l (ys ++ [p]) = M.bstL l ys) : JB w0 Bx Gx Gb Gc l x a n cap (ys ++ [p]) V := by
  obtain ⟨h1, h2, h3, h4, ⟨h5, -⟩ | ⟨-, b, m, c, h6⟩⟩ := h
  · exact absurd h5 hn
  · exact ⟨h1, h2, h3, h4, .inr ⟨by simp, b, m, c, by rw [hb]; exact h6⟩⟩
/-- A search under way. -/
def IT (w0 W1 : World) (Bx Gx Gb Gc D S : Nat) (l : List M.Pc) (x : Int) (a : Option Addr) (n cap : Nat) (first : Int) (lv : Value) (p : List Int) (U : Nat → Bool) (ys : List (List Int)) (W : World) : Prop :=
  Sr W S x (.slice a n cap) first lv U (D + 1) ∧ Own W (D + 2) lv p ∧ JB w0 Bx Gx Gb Gc l x a n cap ys W ∧ (∀ q, bbOf Bx W = some q → lv.ownBlock ≠ some q) ∧ W.heap[D]? = W1.heap[D]? ∧ W.heap[D + 1]? = W1.heap[D + 1]? ∧ W1.heap.size ≤ W.heap.size ∧ D + 2 ≤ W1.heap.size
section
variable {w0 W1 : World} {Bx Gx Gb Gc D S : Nat} {l : List M.Pc} {x : Int} {a : Option Addr} {n cap : Nat} {first : Int} {lv : Value} {p : List Int} {U : Nat → Bool} {ys : List (List Int)} {W : World} (hC : CK w0 Bx Gx Gb Gc D S)
include hC
theorem IT.below {W' : World} (h : IT w0 W1 Bx Gx Gb Gc D S l x a n cap first lv p U ys W) (hb : Below W.heap.size W W') : IT w0 W1 Bx Gx Gb Gc D S l x a n cap first lv p U ys W' := by
  obtain ⟨h1, h2, h3, h4, h5, h6, h7, h8⟩ := h
  obtain ⟨j1, j2⟩ := h3.ch hC (Ch.of_below hb)
  exact ⟨h1.block (hb.block _ h1.lt), h2.below hb, j1, by rw [j2]; exact h4, (hb.block _ (by omega)).trans h5, (hb.block _ (by omega)).trans h6, Nat.le_trans h7 hb.size, h8⟩
theorem IT.bb_lt (h : IT w0 W1 Bx Gx Gb Gc D S l x a n cap first lv p U ys W) {q : Nat} (hq : bbOf Bx W = some q) : q < W.heap.size := by
  obtain ⟨-, -, ⟨-, -, -, -, ⟨-, h1, -⟩ | ⟨-, b, m, c, h1, h2, -⟩⟩, -⟩ := h
  · unfold bbOf at hq; rw [h1] at hq; cases hq
  · unfold bbOf at hq; rw [h1] at hq; exact (own_lt h2 hq).2
theorem IT.bb_ne (h : IT w0 W1 Bx Gx Gb Gc D S l x a n cap first lv p U ys W) {q : Nat} (hq : bbOf Bx W = some q) : q ≠ S := by
  obtain ⟨h0, -, ⟨-, -, -, -, ⟨-, h1, -⟩ | ⟨-, b, m, c, h1, h2, -⟩⟩, -⟩ := h
  · unfold bbOf at hq; rw [h1] at hq; cases hq
  · unfold bbOf at hq; rw [h1] at hq; exact h0.apart h2 hq
/-- A place is put on the list. -/
theorem IT.push {wA w2 : World} {b' m c' : Nat} {y : Int} (h : IT w0 W1 Bx Gx Gb Gc D S l x a n cap first lv p U ys W) (hA : Below W.heap.size W wA) (ho : Own w2 (D + 2) (.slice (some ⟨b', 0, none⟩) m c') (p ++ [y])) (hb : Below (D + 2) wA w2)
    (hk : ∀ k, k < wA.heap.size → lv.ownBlock ≠ some k → w2.heap[k]? = wA.heap[k]?) (hat : lv.ownBlock = some b' ∨ b' = wA.heap.size) (t : Nat) (ht : t < 10) :
    IT w0 W1 Bx Gx Gb Gc D S l x a n cap first (.slice (some ⟨b', 0, none⟩) m c') (p ++ [y]) (fun i => if i = t then true else U i) ys ((w2.setCell ⟨S, 3, none⟩ (.slice (some ⟨b', 0, none⟩) m c')).setCell ⟨S, 4 + t, none⟩ (.bool true)) := by
  have hS := hC.2.2.2.2.2.2.1
  have h := h.below hC hA
  have hbl := fun q hq => h.bb_lt hC (q := q) hq
  have hbn := fun q hq => h.bb_ne hC (q := q) hq
  obtain ⟨h1, h2, h3, h4, h5, h6, h7, h8⟩ := h
  have hlS : lv.ownBlock ≠ some S := fun e => h1.apart h2 e rfl
  have hbS : b' ≠ S := by
    rcases hat with e | e
    · exact h1.apart h2 e
    · have := h1.lt; omega
  have hw : ∀ k, k ≠ S → ((w2.setCell ⟨S, 3, none⟩ (.slice (some ⟨b', 0, none⟩) m c')).setCell ⟨S, 4 + t, none⟩ (.bool true)).heap[k]? = w2.heap[k]? := fun k hk => by
    rw [Below.heap_setCell _ _ _ _ hk, Below.heap_setCell _ _ _ _ hk]
  have hsz : ((w2.setCell ⟨S, 3, none⟩ (.slice (some ⟨b', 0, none⟩) m c')).setCell ⟨S, 4 + t, none⟩ (.bool true)).heap.size = w2.heap.size := by simp
  have hll : ∀ k, k < D + 2 → lv.ownBlock ≠ some k := fun k hk e => absurd (own_lt h2 e).1 (by omega)
  have hD : D + 2 ≤ wA.heap.size := by omega
  obtain ⟨j1, j2⟩ := h3.ch (B := (w2.setCell ⟨S, 3, none⟩ (.slice (some ⟨b', 0, none⟩) m c')).setCell ⟨S, 4 + t, none⟩ (.bool true)) hC ⟨hb.os, hb.tape, hb.output, by rw [hsz]; exact hb.size, fun k hk1 hk2 => by
    rcases hk2 with e | e
    · rw [hw k (by omega)]; exact hk k hk1 (hll k (by omega))
    · rw [hw k (hbn k e)]; exact hk k hk1 (h4 k e)⟩
  refine ⟨?_, ownsRow_keep ho (fun q hq => ?_), j1, fun q hq e => ?_, ?_, ?_, by rw [hsz]; exact Nat.le_trans h7 hb.size, h8⟩
  · exact ((h1.block (hk S h1.lt hlS)).setList _).setUsed t ht true
  · have : b' = q := by injection hq
    subst this
    exact hw _ hbS
  · rw [j2] at hq
    have : b' = q := by injection e
    subst this
    rcases hat with e2 | e2
    · exact h4 _ hq e2
    · have := hbl _ hq; omega
  · rw [hw D (by omega), hk D (by omega) (hll D (by omega))]; exact h5
  · rw [hw (D + 1) (by omega), hk (D + 1) (by omega) (hll (D + 1) (by omega))]; exact h6
/-- The last place is taken off the list. -/
theorem IT.pop {g m c : Nat} {y : Int} (h : IT w0 W1 Bx Gx Gb Gc D S l x a n cap first (.slice (some ⟨g, 0, none⟩) (m + 1) c) (p ++ [y]) U ys W) (t : Nat) (ht : t < 10) :
    IT w0 W1 Bx Gx Gb Gc D S l x a n cap first (.slice (some ⟨g, 0, none⟩) m c) p (fun i => if i = t then false else U i) ys ((W.setCell ⟨S, 3, none⟩ (.slice (some ⟨g, 0, none⟩) m c)).setCell ⟨S, 4 + t, none⟩ (.bool false)) := by
  have hS := hC.2.2.2.2.2.2.1
  have hbn := fun q hq => h.bb_ne hC (q := q) hq
  obtain ⟨h1, h2, h3, h4, h5, h6, h7, h8⟩ := h
  have hgS : g ≠ S := h1.apart h2 rfl
  have hw : ∀ k, k ≠ S → ((W.setCell ⟨S, 3, none⟩ (.slice (some ⟨g, 0, none⟩) m c)).setCell ⟨S, 4 + t, none⟩ (.bool false)).heap[k]? = W.heap[k]? := fun k hk => by
    rw [Below.heap_setCell _ _ _ _ hk, Below.heap_setCell _ _ _ _ hk]
  have hsz : ((W.setCell ⟨S, 3, none⟩ (.slice (some ⟨g, 0, none⟩) m c)).setCell ⟨S, 4 + t, none⟩ (.bool false)).heap.size = W.heap.size := by simp
  obtain ⟨j1, j2⟩ := h3.ch (B := (W.setCell ⟨S, 3, none⟩ (.slice (some ⟨g, 0, none⟩) m c)).setCell ⟨S, 4 + t, none⟩ (.bool false)) hC ⟨rfl, rfl, rfl, by rw [hsz]; exact Nat.le_refl _, fun k hk1 hk2 => by
    rcases hk2 with e | e
    · exact hw k (by omega)
    · exact hw k (hbn k e)⟩
  refine ⟨(h1.setList _).setUsed t ht false, ?_, j1, fun q hq e => ?_, ?_, ?_, by rw [hsz]; exact h7, h8⟩
  · exact own_cut (ownsRow_keep h2 (fun q hq => by
      have : g = q := by injection hq
      subst this
      exact hw _ hgS))
  · rw [j2] at hq; exact h4 q hq e
  · rw [hw D (by omega)]; exact h5
  · rw [hw (D + 1) (by omega)]; exact h6
/-- The least event is set. -/
theorem IT.setFirst (h : IT w0 W1 Bx Gx Gb Gc D S l x a n cap first lv p U ys W) (f' : Int) : IT w0 W1 Bx Gx Gb Gc D S l x a n cap f' lv p U ys (W.setCell ⟨S, 2, none⟩ (.int .i64 f')) := by
  have hS := hC.2.2.2.2.2.2.1
  have hbn := fun q hq => h.bb_ne hC (q := q) hq
  obtain ⟨h1, h2, h3, h4, h5, h6, h7, h8⟩ := h
  have hw : ∀ k, k ≠ S → (W.setCell ⟨S, 2, none⟩ (.int .i64 f')).heap[k]? = W.heap[k]? := fun k hk => Below.heap_setCell _ _ _ _ hk
  have hsz : (W.setCell ⟨S, 2, none⟩ (.int .i64 f')).heap.size = W.heap.size := by simp
  obtain ⟨j1, j2⟩ := h3.ch (B := W.setCell ⟨S, 2, none⟩ (.int .i64 f')) hC ⟨rfl, rfl, rfl, by rw [hsz]; exact Nat.le_refl _, fun k hk1 hk2 => by
    rcases hk2 with e | e
    · exact hw k (by omega)
    · exact hw k (hbn k e)⟩
  exact ⟨h1.setFirst f', ownsRow_keep h2 (fun q hq => hw q (fun e => by subst e; exact h1.apart h2 hq rfl)), j1, fun q hq => by rw [j2] at hq; exact h4 q hq, (hw D (by omega)).trans h5, (hw (D + 1) (by omega)).trans h6, by rw [hsz]; exact h7, h8⟩
/-- The caller has seen one more circuit. -/
theorem IT.seen {W' : World} {zs : List (List Int)} (h : IT w0 W1 Bx Gx Gb Gc D S l x a n cap first lv p U ys W) (hJ : JB w0 Bx Gx Gb Gc l x a n cap zs W') (hs : W.heap.size ≤ W'.heap.size) (hk : ∀ k, D ≤ k → k < W.heap.size → W'.heap[k]? = W.heap[k]?) (hb : ∀ q, bbOf Bx W' = some q → bbOf Bx W = some q ∨ W.heap.size ≤ q) : IT w0 W1 Bx Gx Gb Gc D S l x a n cap first lv p U zs W' := by
  have hS := hC.2.2.2.2.2.2.1
  obtain ⟨h1, h2, h3, h4, h5, h6, h7, h8⟩ := h
  refine ⟨h1.block (hk _ (by omega) h1.lt), ownsRow_keep h2 (fun q hq => hk q (by have := (own_lt h2 hq).1; omega) (own_lt h2 hq).2), hJ, fun q hq e => ?_, (hk D (by omega) (by omega)).trans h5, (hk (D + 1) (by omega) (by omega)).trans h6, Nat.le_trans h7 hs, h8⟩
  rcases hb q hq with e2 | e2
  · exact h4 q e2 e
  · have := (own_lt h2 e).2; omega
end
end Go.Proofs.YtlofnadpgnbmdaaGreat.V

namespace Go.Proofs.YtlofnadpgnbmdaaGreat.V
set_option maxRecDepth 100000
open Go Go.RowKit
/-- What a call of extend does with f events left. -/
def EX (w0 W1 : World) (Bx Gx Gb Gc D S : Nat) (l : List M.Pc) (x : Int) (a : Option Addr) (n cap : Nat) (f : Nat) : Prop := ∀ (first : Int) (g c : Nat) (p : List Int) (U : Nat → Bool) (ys : List (List Int)) (w : World), IT w0 W1 Bx Gx Gb Gc D S l x a n cap first (.slice (some ⟨g, 0, none⟩) p.length c) p U ys w → M.PthC l p → M.frI l (p.getD 0 0) = first →
  (∀ z, z < 10 → U z = M.hasB (p.map (M.toI l)) (z : Int)) → 11 ≤ f + p.length →
  Calls Tryz.prog 171 #[.pointer (some ⟨S, 0, none⟩), .int .i64 (M.toI l (M.lstI p))] w fun e W' => e = .returned (.bool true) ∧ ∃ g' c', IT w0 W1 Bx Gx Gb Gc D S l x a n cap first (.slice (some ⟨g', 0, none⟩) p.length c') p U (ys ++ M.extC l f p) W'
set_option maxRecDepth 100000 in
set_option maxHeartbeats 8000000 in
theorem takeC (w0 W1 : World) (Bx Gx Gb Gc D S : Nat) (l : List M.Pc) (x : Int) (a : Option Addr) (n cap : Nat) (hC : CK w0 Bx Gx Gb Gc D S) (hn : Pls w0 a n l) (he : M.evOk l 10) (f : Nat) (hEX : EX w0 W1 Bx Gx Gb Gc D S l x a n cap f)
    (first : Int) (b : Option Addr) (c : Nat) (p : List Int) (U : Nat → Bool) (ys : List (List Int)) (i : Nat) (w : World) (hI : IT w0 W1 Bx Gx Gb Gc D S l x a n cap first (.slice b p.length c) p U ys w) (hi : i < n) (hlen : p.length ≤ 10)
    (hok : first ≤ M.toI l i → U (M.toI l i).toNat = false → M.PthC l (p ++ [(i : Int)]) ∧ M.frI l ((p ++ [(i : Int)]).getD 0 0) = first)
    (hU : ∀ z, z < 10 → U z = M.hasB (p.map (M.toI l)) (z : Int)) (hf : 10 ≤ f + p.length) :
    Calls Tryz.prog 156 #[.pointer (some ⟨S, 0, none⟩), .int .i64 i] w fun e W' => e = .returned (.bool true) ∧ ∃ b' c', IT w0 W1 Bx Gx Gb Gc D S l x a n cap first (.slice b' p.length c') p U (ys ++ if first ≤ M.toI l i ∧ U (M.toI l i).toNat = false then M.extC l f (p ++ [(i : Int)]) else []) W' := by
  have hL := hn.1
  have hP := hn.below hI.2.2.1.1
  obtain ⟨pb, off, p0, p1, p2, p3, rfl, hpd, hp, c0, c1, c2, c3⟩ := hP.at i hi
  have hev := he i (by omega)
  have hp' : l.getD i M.plz = (p0, p1, p2, p3) := hp
  rw [hp'] at hev
  have hto : M.toI l (i : Int) = p1 := by show (l.getD i M.pz).2.1 = p1; rw [hp]
  have e2 : 0 ≤ p1 := hev.2.2.1
  have e3 : p1 < 10 := hev.2.2.2.1
  obtain ⟨t, rfl⟩ := Int.eq_ofNat_of_zero_le e2
  have ht10 : t < 10 := by omega
  have ht10' : (t : Int) < 10 := by omega
  rw [hto] at hok ⊢
  rw [Int.toNat_natCast] at hok ⊢
  have hii : (i : Int) < (n : Int) := by omega
  have HI := Lib.hid hI
  have HC := Lib.hid hC
  have HSr := Lib.hid hI.1
  have hSlt := hI.1.lt
  have s0 := hI.1.c0
  have s1 := hI.1.c1
  have s2 := hI.1.c2
  have s3 := hI.1.c3
  have sU := hI.1.cU t ht10
  have HN := Lib.hid hn
  have HTo := Lib.hid hto
  clear hP hev hp hp' hto e2 e3 he hn
  by_cases h1 : first ≤ (t : Int)
  · have h1' : ¬ ((t : Int) < first) := by omega
    cases hUt : U t with
    | true =>
      rw [if_neg (fun q => by cases q.2), List.append_nil]
      rw [hUt] at sU
      clear hok hU hUt
      go_enter Tryz.func156, Tryz.ntmps156
      go_wp2
      go_ret
      exact ⟨rfl, _, _, HI.out⟩
    | false =>
      rw [if_pos ⟨h1, rfl⟩]
      rw [hUt] at sU
      obtain ⟨hpt, hfr⟩ := hok h1 hUt
      have HPth := Lib.hid hpt
      have HFr := Lib.hid hfr
      have HUt := Lib.hid hUt
      have hlS : (Value.slice b p.length c).ownBlock ≠ some S := fun e => hI.1.apart hI.2.1 e rfl
      have hDw : D + 2 ≤ w.heap.size := by have := hI.2.2.2.2.2.2; omega
      have HOd : Hid (Own w.drew (D + 2) (.slice b p.length c) p) := hI.2.1.below (Below.refl _ _).drew
      have HWA : Hid (Below w.heap.size w (w.drew.alloc (.cells #[.int .i64 (i : Int)] 2))) := ((Below.refl w.heap.size w).drew.alloc (by exact Nat.le_refl _) _)
      have HU4 : Hid (∀ z, z < 10 → (if z = t then true else U z) = M.hasB ((p ++ [(i : Int)]).map (M.toI l)) (z : Int)) := fun z hz => by
        rw [List.map_append]
        show _ = M.hasB (p.map (M.toI l) ++ [M.toI l (i : Int)]) (z : Int)
        rw [hasB_app, HTo.out, ← hU z hz]
        by_cases e : z = t
        · subst e; simp
        · have e2 : ¬ ((z : Int) = (t : Int)) := by omega
          simp [e, e2]
      have HUb : Hid ((fun z => if z = t then false else (fun z => if z = t then true else U z) z) = U) := by
        show _ = _
        funext z
        by_cases e : z = t
        · subst e; simp [hUt]
        · simp [e]
      have HEXi : Hid (∀ g c w, IT w0 W1 Bx Gx Gb Gc D S l x (some ⟨pb, off, none⟩) n cap first (.slice (some ⟨g, 0, none⟩) (p.length + 1) c) (p ++ [(i : Int)]) (fun z => if z = t then true else U z) ys w → Calls Tryz.prog 171 #[.pointer (some ⟨S, 0, none⟩), .int .i64 t] w fun e W' => e = .returned (.bool true) ∧ ∃ g' c', IT w0 W1 Bx Gx Gb Gc D S l x (some ⟨pb, off, none⟩) n cap first (.slice (some ⟨g', 0, none⟩) (p.length + 1) c') (p ++ [(i : Int)]) (fun z => if z = t then true else U z) (ys ++ M.extC l f (p ++ [(i : Int)])) W') := fun g c w h => by
        have := hEX first g c (p ++ [(i : Int)]) _ ys w (by rw [List.length_append]; exact h) HPth.out HFr.out HU4.out (by rw [List.length_append]; simp; omega)
        rw [M.lst_snoc, HTo.out, List.length_append] at this
        exact this
      clear hok hU hUt hpt hfr hI hEX
      go_enter Tryz.func156, Tryz.ntmps156
      go_wp2
      refine wp_region_any (by kernel_rfl) ?_
      change wpAny _ _ _ _ _ _ _ (World.drew _)
      refine wpAny_take (i := 0) (v := ?v0) rfl (by kernel_rfl) (by kernel_rfl) (by kernel_rfl) (fun _ _ _ h => h) (Or.inl ⟨by rfl, ?hy0⟩) ?rest0
      case hy0 => (intro w; go_simp; try with_reducible rfl)
      (try simp only [Act.put, List.setIfInBounds_toArray, List.set_cons_zero, List.set_cons_succ, List.getElem_toArray, List.getElem_cons_zero, List.getElem_cons_succ])
      refine wpAny_take (i := 1) (v := ?v1) rfl (by kernel_rfl) (by kernel_rfl) (by kernel_rfl) (fun _ _ _ h => h) (Or.inl ⟨by rfl, ?hy1⟩) ?rest1
      case hy1 => (intro w; go_simp; try with_reducible rfl)
      (try simp only [Act.put, List.setIfInBounds_toArray, List.set_cons_zero, List.set_cons_succ, List.getElem_toArray, List.getElem_cons_zero, List.getElem_cons_succ])
      refine wpAny_take (i := 2) (v := ?v2) rfl (by kernel_rfl) (by kernel_rfl) (by kernel_rfl) (fun _ _ _ h => h) (Or.inl ⟨by rfl, ?hy2⟩) ?rest2
      case hy2 => (intro w; go_simp; try with_reducible rfl)
      (try simp only [Act.put, List.setIfInBounds_toArray, List.set_cons_zero, List.set_cons_succ, List.getElem_toArray, List.getElem_cons_zero, List.getElem_cons_succ])
      refine wpAny_take (i := 3) (v := ?v3) rfl (by kernel_rfl) (by kernel_rfl) (by kernel_rfl) (fun _ _ _ h => h) (Or.inl ⟨by rfl, ?hy3⟩) ?rest3
      case hy3 => (intro w; go_simp; try with_reducible rfl)
      (try simp only [Act.put, List.setIfInBounds_toArray, List.set_cons_zero, List.set_cons_succ, List.getElem_toArray, List.getElem_cons_zero, List.getElem_cons_succ])
      refine wpAny_take (i := 4) (v := ?v4) rfl (by kernel_rfl) (by kernel_rfl) (by kernel_rfl) (fun _ _ _ h => h) (Or.inl ⟨by rfl, ?hy4⟩) ?rest4
      case hy4 => (intro w; go_simp; try with_reducible rfl)
      (try simp only [Act.put, List.setIfInBounds_toArray, List.set_cons_zero, List.set_cons_succ, List.getElem_toArray, List.getElem_cons_zero, List.getElem_cons_succ])
      refine wpAny_take (i := 5) (v := ?v5) rfl (by kernel_rfl) (by kernel_rfl) (by kernel_rfl) (fun _ _ _ h => h) (Or.inl ⟨by rfl, ?hy5⟩) ?rest5
      case hy5 => (intro w; go_simp; try with_reducible rfl)
      (try simp only [Act.put, List.setIfInBounds_toArray, List.set_cons_zero, List.set_cons_succ, List.getElem_toArray, List.getElem_cons_zero, List.getElem_cons_succ])
      refine wpAny_take (i := 7) (v := ?v7) rfl (by kernel_rfl) (by kernel_rfl) (by kernel_rfl) (fun _ _ _ h => h) (Or.inl ⟨by rfl, ?hy7⟩) ?rest7
      case hy7 => (intro w; go_simp; try with_reducible rfl)
      (try simp only [Act.put, List.setIfInBounds_toArray, List.set_cons_zero, List.set_cons_succ, List.getElem_toArray, List.getElem_cons_zero, List.getElem_cons_succ])
      refine wpAny_take (i := 13) (v := ?v13) rfl (by kernel_rfl) (by kernel_rfl) (by kernel_rfl) (fun _ _ _ h => h) (Or.inl ⟨by rfl, ?hy13⟩) ?rest13
      case hy13 => (intro w; go_simp; try with_reducible rfl)
      (try simp only [Act.put, List.setIfInBounds_toArray, List.set_cons_zero, List.set_cons_succ, List.getElem_toArray, List.getElem_cons_zero, List.getElem_cons_succ])
      refine wpAny_take (i := 14) (v := ?v14) rfl (by kernel_rfl) (by kernel_rfl) (by kernel_rfl) (fun _ _ _ h => h) (Or.inl ⟨by rfl, ?hy14⟩) ?rest14
      case hy14 => (intro w; go_simp; try with_reducible rfl)
      (try simp only [Act.put, List.setIfInBounds_toArray, List.set_cons_zero, List.set_cons_succ, List.getElem_toArray, List.getElem_cons_zero, List.getElem_cons_succ])
      refine wpAny_ready (rs := [6, 8]) (by kernel_rfl) (by simp) (AllReady.cons rfl (fun K hK => ?a6) (AllReady.cons rfl (fun K hK => ?a8) AllReady.nil))
      case' a6 =>
        go_simp
        refine hK _ _ ?_
        clear hK K
        (try simp only [Act.put, List.setIfInBounds_toArray, List.set_cons_zero, List.set_cons_succ, List.getElem_toArray, List.getElem_cons_zero, List.getElem_cons_succ])
        refine wpAny_ready (rs := [8]) (by kernel_rfl) (by simp) (AllReady.cons rfl (fun K hK => ?_) AllReady.nil)
        go_simp
        refine hK _ _ ?_
        clear hK K
        (try simp only [Act.put, List.setIfInBounds_toArray, List.set_cons_zero, List.set_cons_succ, List.getElem_toArray, List.getElem_cons_zero, List.getElem_cons_succ])
        refine wpAny_ready (rs := [9]) (by kernel_rfl) (by simp) (AllReady.cons rfl (fun K hK => ?_) AllReady.nil)
        refine step_appendC _ rfl _ _ rfl (D + 2) _ p (i : Int) _ p.length rfl rfl (HOd.out.below (b_alloc _ _)) rfl (by simp) (by omega) (by simp; omega) ?_
        intro g2 c2' w2 ho hb hk5 hat
        have HP2 := Lib.hid (HI.out.push HC.out (wA := (w.drew.alloc (.cells #[.int .i64 (i : Int)] 2))) HWA.out ho hb hk5 hat t ht10)
        have hSw : w2.heap[S]? = w.heap[S]? := (hk5 S (by simp; omega) hlS).trans (Below.heap_alloc _ _ _ hSlt)
        have HS2 := Lib.hid (HSr.out.block hSw)
        have t1 := HS2.out.c3
        have t2 := HS2.out.fz 3
        have t3 := HS2.out.cU t ht10
        have t4 := HS2.out.fz (4 + t)
        rw [HUt.out] at t3
        have t5 := fun v => (HS2.out.setList v).cU t ht10
        have t6 := fun v => (HS2.out.setUsed t ht10 v).c3
        simp only [HUt.out] at t5
        clear ho hb hk5 hat hSw
        refine hK _ _ ?_
        clear hK K
        (try simp only [Act.put, List.setIfInBounds_toArray, List.set_cons_zero, List.set_cons_succ, List.getElem_toArray, List.getElem_cons_zero, List.getElem_cons_succ])
        refine wpAny_ready (rs := [10]) (by kernel_rfl) (by simp) (AllReady.cons rfl (fun K hK => ?_) AllReady.nil)
        go_simp
        refine hK _ _ ?_
        clear hK K
        (try simp only [Act.put, List.setIfInBounds_toArray, List.set_cons_zero, List.set_cons_succ, List.getElem_toArray, List.getElem_cons_zero, List.getElem_cons_succ])
        refine wpAny_ready (rs := [11]) (by kernel_rfl) (by simp) (AllReady.cons rfl (fun K hK => ?_) AllReady.nil)
        go_simp
        refine hK _ _ ?_
        clear hK K
        (try simp only [Act.put, List.setIfInBounds_toArray, List.set_cons_zero, List.set_cons_succ, List.getElem_toArray, List.getElem_cons_zero, List.getElem_cons_succ])
        refine wpAny_ready (rs := [12]) (by kernel_rfl) (by simp) (AllReady.cons rfl (fun K hK => ?_) AllReady.nil)
        go_simp
        refine hK _ _ ?_
        clear hK K
        (try simp only [Act.put, List.setIfInBounds_toArray, List.set_cons_zero, List.set_cons_succ, List.getElem_toArray, List.getElem_cons_zero, List.getElem_cons_succ])
        refine wpAny_ready (rs := [15]) (by kernel_rfl) (by simp) (AllReady.cons rfl (fun K hK => ?_) AllReady.nil)
        go_simp
        refine hK _ _ ?_
        clear hK K
        (try simp only [Act.put, List.setIfInBounds_toArray, List.set_cons_zero, List.set_cons_succ, List.getElem_toArray, List.getElem_cons_zero, List.getElem_cons_succ])
        refine wpAny_ready (rs := [16]) (by kernel_rfl) (by simp) (AllReady.cons rfl (fun K hK => ?_) AllReady.nil)
        go_simp
        refine hK _ _ ?_
        clear hK K
        (try simp only [Act.put, List.setIfInBounds_toArray, List.set_cons_zero, List.set_cons_succ, List.getElem_toArray, List.getElem_cons_zero, List.getElem_cons_succ])
        refine wpAny_done (by kernel_rfl) ?_ _
      case' a8 =>
        go_simp
        refine hK _ _ ?_
        clear hK K
        (try simp only [Act.put, List.setIfInBounds_toArray, List.set_cons_zero, List.set_cons_succ, List.getElem_toArray, List.getElem_cons_zero, List.getElem_cons_succ])
        refine wpAny_ready (rs := [6]) (by kernel_rfl) (by simp) (AllReady.cons rfl (fun K hK => ?_) AllReady.nil)
        go_simp
        refine hK _ _ ?_
        clear hK K
        (try simp only [Act.put, List.setIfInBounds_toArray, List.set_cons_zero, List.set_cons_succ, List.getElem_toArray, List.getElem_cons_zero, List.getElem_cons_succ])
        refine wpAny_ready (rs := [9]) (by kernel_rfl) (by simp) (AllReady.cons rfl (fun K hK => ?_) AllReady.nil)
        refine step_appendC _ rfl _ _ rfl (D + 2) _ p (i : Int) _ p.length rfl rfl (HOd.out.below (b_alloc _ _)) rfl (by simp) (by omega) (by simp; omega) ?_
        intro g2 c2' w2 ho hb hk5 hat
        have HP2 := Lib.hid (HI.out.push HC.out (wA := (w.drew.alloc (.cells #[.int .i64 (i : Int)] 2))) HWA.out ho hb hk5 hat t ht10)
        have hSw : w2.heap[S]? = w.heap[S]? := (hk5 S (by simp; omega) hlS).trans (Below.heap_alloc _ _ _ hSlt)
        have HS2 := Lib.hid (HSr.out.block hSw)
        have t1 := HS2.out.c3
        have t2 := HS2.out.fz 3
        have t3 := HS2.out.cU t ht10
        have t4 := HS2.out.fz (4 + t)
        rw [HUt.out] at t3
        have t5 := fun v => (HS2.out.setList v).cU t ht10
        have t6 := fun v => (HS2.out.setUsed t ht10 v).c3
        simp only [HUt.out] at t5
        clear ho hb hk5 hat hSw
        refine hK _ _ ?_
        clear hK K
        (try simp only [Act.put, List.setIfInBounds_toArray, List.set_cons_zero, List.set_cons_succ, List.getElem_toArray, List.getElem_cons_zero, List.getElem_cons_succ])
        refine wpAny_ready (rs := [10]) (by kernel_rfl) (by simp) (AllReady.cons rfl (fun K hK => ?_) AllReady.nil)
        go_simp
        refine hK _ _ ?_
        clear hK K
        (try simp only [Act.put, List.setIfInBounds_toArray, List.set_cons_zero, List.set_cons_succ, List.getElem_toArray, List.getElem_cons_zero, List.getElem_cons_succ])
        refine wpAny_ready (rs := [11]) (by kernel_rfl) (by simp) (AllReady.cons rfl (fun K hK => ?_) AllReady.nil)
        go_simp
        refine hK _ _ ?_
        clear hK K
        (try simp only [Act.put, List.setIfInBounds_toArray, List.set_cons_zero, List.set_cons_succ, List.getElem_toArray, List.getElem_cons_zero, List.getElem_cons_succ])
        refine wpAny_ready (rs := [12]) (by kernel_rfl) (by simp) (AllReady.cons rfl (fun K hK => ?_) AllReady.nil)
        go_simp
        refine hK _ _ ?_
        clear hK K
        (try simp only [Act.put, List.setIfInBounds_toArray, List.set_cons_zero, List.set_cons_succ, List.getElem_toArray, List.getElem_cons_zero, List.getElem_cons_succ])
        refine wpAny_ready (rs := [15]) (by kernel_rfl) (by simp) (AllReady.cons rfl (fun K hK => ?_) AllReady.nil)
        go_simp
        refine hK _ _ ?_
        clear hK K
        (try simp only [Act.put, List.setIfInBounds_toArray, List.set_cons_zero, List.set_cons_succ, List.getElem_toArray, List.getElem_cons_zero, List.getElem_cons_succ])
        refine wpAny_ready (rs := [16]) (by kernel_rfl) (by simp) (AllReady.cons rfl (fun K hK => ?_) AllReady.nil)
        go_simp
        refine hK _ _ ?_
        clear hK K
        (try simp only [Act.put, List.setIfInBounds_toArray, List.set_cons_zero, List.set_cons_succ, List.getElem_toArray, List.getElem_cons_zero, List.getElem_cons_succ])
        refine wpAny_done (by kernel_rfl) ?_ _
      all_goals
        have HPQ := Lib.hid HP2.out
        clear HP2 t1 t2 t3 t4 t5 t6 s0 s1 s2 s3 sU c0 c1 c2 c3 HS2
        go_wp2_with fail
        refine (HEXi.out g2 c2' _ HPQ.out).mono ?_
        rintro e w5 ⟨rfl, g5, c5, hI5⟩
        have HI5 := Lib.hid hI5
        have hI5S := hI5.1
        have HS5 := Lib.hid hI5S
        have hc5 := own_cap hI5.2.1
        have hci : (p.length : Int) ≤ (c5 : Int) := by have := hc5.1; omega
        clear hI5 hI5S hc5
        have t1 := HS5.out.c3
        have t2 := HS5.out.fz 3
        have t3 := HS5.out.cU t ht10
        have t4 := HS5.out.fz (4 + t)
        simp only [if_true] at t3
        have t5 := fun v => (HS5.out.setList v).cU t ht10
        have t6 := fun v => (HS5.out.setUsed t ht10 v).c3
        simp only [if_true] at t5
        have ht2 : ((p.length : Int) + 1 - 1) = (p.length : Int) := by omega
        go_wp2
        go_region
        all_goals
          go_wp2
          go_ret
          have hpop := (HI5.out.pop HC.out t ht10).below HC.out (Below.refl _ _).drew
          rw [HUb.out] at hpop
          exact ⟨rfl, _, _, hpop⟩
  · have h1' : (t : Int) < first := by omega
    rw [if_neg (fun q => h1 q.1), List.append_nil]
    clear hok hU
    go_enter Tryz.func156, Tryz.ntmps156
    go_wp2
    go_ret
    exact ⟨rfl, _, _, HI.out⟩
end Go.Proofs.YtlofnadpgnbmdaaGreat.V

namespace Go.Proofs.YtlofnadpgnbmdaaGreat
namespace M
theorem okC_if {l : List (Int × Int × Int × Int)} {p : List Int} {k : Nat} {first : Int} {U : Nat → Bool} {E : List (List Int)} (h1 : frI l k = toI l (lstI p)) (h2 : frI l (p.getD 0 0) = first) (h3 : 0 ≤ toI l k) (hU : U (toI l k).toNat = hasB (p.map (toI l)) (toI l k)) :
    (if first ≤ toI l k ∧ U (toI l k).toNat = false then E else []) = if okC l p k then E else [] := by
  have : (okC l p k = true) ↔ (first ≤ toI l k ∧ U (toI l k).toNat = false) := by
    unfold okC
    rw [h2, hU]
    simp [h1]
  by_cases q : okC l p k = true
  · rw [if_pos q, if_pos (this.1 q)]
  · rw [if_neg q, if_neg (fun e => q (this.2 e))]
theorem okC_no {l : List (Int × Int × Int × Int)} {p : List Int} {k : Nat} (h1 : frI l k ≠ toI l (lstI p)) : okC l p k = false := by
  unfold okC; rw [decide_eq_false h1]; rfl
theorem flat_succ (G : Nat → List (List Int)) (k : Nat) : (List.range (k + 1)).flatMap G = (List.range k).flatMap G ++ G k := by
  rw [List.range_succ, List.flatMap_append]; simp
end M
namespace V
set_option maxRecDepth 100000
open Go Go.RowKit
/-- What is handed to a round: a circuit. -/
def PreY (D : Nat) (l : List M.Pc) (p : List Int) (x : Array Value) (W : World) : Prop := ∃ b m c, x = #[.slice b m c] ∧ Own W (D + 2) (.slice b m c) p ∧ M.cirB l p = true
/-- What a round does. -/
def YL (w0 W1 : World) (Bx Gx Gb Gc D S : Nat) (l : List M.Pc) (x : Int) (a : Option Addr) (n cap : Nat) : Prop := ∀ ys p v W m, PreY D l p v W → JB w0 Bx Gx Gb Gc l x a n cap ys W → W.heap[D]? = W1.heap[D]? → W.heap[D + 1]? = W1.heap[D + 1]? → W1.heap.size ≤ W.heap.size →
  YieldAt Fence.wide m Tryz.prog (D + 1) v W fun e W' => e = .returned (.bool true) ∧ JB w0 Bx Gx Gb Gc l x a n cap (ys ++ [p]) W' ∧ W.heap.size ≤ W'.heap.size ∧ (∀ k, D ≤ k → k < W.heap.size → W'.heap[k]? = W.heap[k]?) ∧ (∀ q, bbOf Bx W' = some q → bbOf Bx W = some q ∨ W.heap.size ≤ q)
set_option maxRecDepth 100000 in
set_option maxHeartbeats 8000000 in
theorem extendC (w0 W1 : World) (Bx Gx Gb Gc D S : Nat) (l : List M.Pc) (x : Int) (a : Option Addr) (n cap : Nat) (hC : CK w0 Bx Gx Gb Gc D S) (hn : Pls w0 a n l) (he : M.evOk l 10) (hn30 : n ≤ 30) (hY : YL w0 W1 Bx Gx Gb Gc D S l x a n cap) (f : Nat) : EX w0 W1 Bx Gx Gb Gc D S l x a n cap f := by
  induction f with
  | zero =>
    intro first g c p U ys w hI hp hfr hU hf
    have := M.pth_len he hp
    omega
  | succ f IH =>
    intro first g c p U ys w hI hp hfr hU hf
    have hpl := M.pth_len he hp
    have hp1 := hp.1
    have hL := hn.1
    have hlast := M.ev_at he hp.2.1 (k := p.length - 1) (by omega)
    have hlu : M.lstI p = p.getD (p.length - 1) 0 := rfl
    rw [← hlu] at hlast
    obtain ⟨u, hu⟩ := Int.eq_ofNat_of_zero_le hlast.2.2.1
    rw [hu]
    have HI := Lib.hid hI
    have HC := Lib.hid hC
    have HP := Lib.hid hp
    have HU := Lib.hid hU
    have HN := Lib.hid hn
    have HL := Lib.hid hL
    have HEv := Lib.hid he
    have HIH := Lib.hid IH
    have HYY := Lib.hid hY
    have HUu := Lib.hid hu
    have HFr := Lib.hid hfr
    have hSlt := hI.1.lt
    have s1 := hI.1.c1
    have s2 := hI.1.c2
    have s3 := hI.1.c3
    have s14 := hI.1.c14
    by_cases hcl : (u : Int) = first
    · have HX : Hid (M.extC l (f + 1) p = [p]) := by
        show _ = _
        unfold M.extC
        rw [if_pos (by rw [hu, hfr]; exact hcl)]
      have hcir := (M.pth_cir hp (by rw [hu, hfr]; exact hcl)).1
      have HId := Lib.hid (hI.below hC (Below.refl _ _).drew)
      have HPr : Hid (PreY D l p #[.slice (some ⟨g, 0, none⟩) p.length c] w.drew) := ⟨_, _, _, rfl, HId.out.2.1, hcir⟩
      have hclb : ((u : Int) == first) = true := by simpa using hcl
      obtain ⟨fn, tmps, assign, body, hy, hR⟩ := HYY.out ys p #[.slice (some ⟨g, 0, none⟩) p.length c] w.drew (3 - 1) HPr.out HId.out.2.2.1 HId.out.2.2.2.2.1 HId.out.2.2.2.2.2.1 HId.out.2.2.2.2.2.2.1
      clear hI hp hfr hU hf hn he IH hY hlast hlu hu hcir hcl hC hL
      go_enter Tryz.func171, Tryz.ntmps171
      go_wp2
      refine (wpIn_wide (n := 3)).1 ?_
      refine wpIn_region_still_tail 8 (by kernel_rfl) (by kernel_rfl) ?_
      simp only [List.take_succ_cons, List.take_zero, List.drop_succ_cons, List.drop_zero]
      repeat still_step
      try refine wpStill_nil ?_
      change wpListIn _ _ _ _ _ _ _ w.drew
      gi_wp2_with ((try refine ⟨fun h => by simp [Fence.wide] at h, ?_⟩); refine hR.mono ?_; clear hR; rintro e w3 ⟨rfl, hJ, hsz, hk, hb⟩)
      have HS3 := Lib.hid (HId.out.seen HC.out hJ hsz hk hb)
      clear hJ hsz hk hb
      go_wp2
      go_ret
      rw [HX.out]
      exact ⟨rfl, g, c, HS3.out⟩
    · obtain ⟨G, hG⟩ : ∃ G : Nat → List (List Int), G = fun i : Nat => if M.okC l p i then M.extC l f (p ++ [(i : Int)]) else [] := ⟨_, rfl⟩
      have HX : Hid (M.extC l (f + 1) p = (List.range n).flatMap G) := by
        show _ = _
        have : M.extC l (f + 1) p = if M.toI l (M.lstI p) = M.frI l (p.getD 0 0) then [p] else (List.range l.length).flatMap fun i : Nat => if M.okC l p i then M.extC l f (p ++ [(i : Int)]) else [] := rfl
        rw [this, if_neg (by rw [hu, hfr]; exact hcl), hL, hG]
      have HGg : Hid (∀ i : Nat, G i = if M.okC l p i then M.extC l f (p ++ [(i : Int)]) else []) := fun i => by rw [hG]
      have hclb : ((u : Int) == first) = false := by simpa using hcl
      have HNe : Hid (M.toI l (M.lstI p) ≠ M.frI l (p.getD 0 0)) := by show _ ≠ _; rw [hu, hfr]; exact hcl
      have HI0 : Hid (IT w0 W1 Bx Gx Gb Gc D S l x a n cap first (.slice (some ⟨g, 0, none⟩) p.length c) p U (ys ++ (List.range 0).flatMap G) w) := by
        show IT _ _ _ _ _ _ _ _ _ _ _ _ _ _ _ _ _ _ _
        simpa using hI
      have hp10 : 10 ≤ f + p.length := by omega
      clear hI hp hfr hU hf hn he IH hY hlast hlu hu hcl hC hG hL
      go_enter Tryz.func171, Tryz.ntmps171
      go_wp2
      clear s1 s2 s3 s14 hSlt
      go_loopw [5, 6, 28] (fun _ _ kv wr => ∃ k g c : Nat, k ≤ n ∧ kv = .int .i64 k ∧ Hid (IT w0 W1 Bx Gx Gb Gc D S l x a n cap first (.slice (some ⟨g, 0, none⟩) p.length c) p U (ys ++ (List.range k).flatMap G) wr)) (fun _ _ kv _ => n - (intOf kv).toNat)
      case atStart => exact ⟨0, g, c, Nat.zero_le _, rfl, HI0⟩
      case round =>
        obtain ⟨k, g, c, hk, rfl, HIr⟩ := hrel
        obtain ⟨wo, rfl⟩ : ∃ z, z = wr := ⟨_, rfl⟩
        clear HI0
        by_cases hkn : k < n
        · have hki : (k : Int) < (n : Int) := by omega
          obtain ⟨pb, off, p0, p1, p2, p3, rfl, hpd, hp, c0, c1, c2, c3⟩ := (HN.out.below HIr.out.2.2.1.1).at k hkn
          have hfk : M.frI l (k : Int) = p0 := by show (l.getD k M.pz).1 = p0; rw [hp]
          have HFk := Lib.hid hfk
          by_cases hq : p0 = (u : Int)
          · have hqb : (p0 == (u : Int)) = true := by simpa using hq
            have HFe : Hid (M.frI l (k : Int) = M.toI l (M.lstI p)) := by show _ = _; rw [hfk, HUu.out]; exact hq
            clear hp hfk hq
            have hevk := HEv.out k (by rw [HL.out]; exact hkn)
            have htk : 0 ≤ M.toI l (k : Int) ∧ M.toI l (k : Int) < 10 := ⟨hevk.2.2.1, hevk.2.2.2.1⟩
            have HOk : Hid (first ≤ M.toI l (k : Int) → U (M.toI l (k : Int)).toNat = false → M.PthC l (p ++ [(k : Int)]) ∧ M.frI l ((p ++ [(k : Int)]).getD 0 0) = first) := fun h1 h2 => by
              refine ⟨M.pth_snoc HP.out HNe.out (by rw [HL.out]; exact hkn) ?_, by rw [M.getD_app_l (by omega)]; exact HFr.out⟩
              unfold M.okC
              simp only [Bool.and_eq_true, decide_eq_true_eq, Bool.not_eq_true']
              refine ⟨HFe.out, by rw [HFr.out]; exact h1, ?_⟩
              rw [HU.out _ (by omega)] at h2
              rwa [Int.toNat_of_nonneg htk.1] at h2
            have HEq : Hid (∀ E : List (List Int), (if first ≤ M.toI l (k : Int) ∧ U (M.toI l (k : Int)).toNat = false then E else []) = if M.okC l p k then E else []) := fun E => M.okC_if HFe.out HFr.out htk.1 (by rw [HU.out _ (by omega), Int.toNat_of_nonneg htk.1])
            obtain ⟨wA, hwA⟩ : ∃ z, z = wo.alloc (.cells #[.int .i64 p0, .int .i64 p1, .int .i64 p2, .int .i64 p3] 71) := ⟨_, rfl⟩
            have HIA := Lib.hid (HIr.out.below HC.out (by rw [hwA]; exact b_alloc wo _) : IT w0 W1 Bx Gx Gb Gc D S l x (some ⟨pb, off, none⟩) n cap first (.slice (some ⟨g, 0, none⟩) p.length c) p U (ys ++ (List.range k).flatMap G) wA)
            clear hevk htk
            have HTk := Lib.hid (takeC w0 W1 Bx Gx Gb Gc D S l x (some ⟨pb, off, none⟩) n cap HC.out HN.out HEv.out f HIH.out first (some ⟨g, 0, none⟩) c p U (ys ++ (List.range k).flatMap G) k wA HIA.out hkn hpl HOk.out HU.out hp10)
            have HWa := Lib.hid hwA.symm
            clear hwA
            go_wp2_with fail
            rw [HWa.out]
            refine HTk.out.mono ?_
            rintro e w3 ⟨rfl, b3, c3', hI3⟩
            rw [HEq.out, ← HGg.out, List.append_assoc, ← M.flat_succ] at hI3
            obtain ⟨g3, rfl, -⟩ := own_head hI3.2.1 (by omega)
            have HI3 := Lib.hid hI3
            clear hI3 HTk c0 c1 c2 c3
            go_wp2
            go_roundw
            case rel => exact ⟨k + 1, g3, c3', by omega, by go_num, HI3⟩
            case measure => simp [intOf]; omega
          · have hqb : (p0 == (u : Int)) = false := by simpa using hq
            have HGk : Hid (G k = []) := by
              show _ = _
              rw [HGg.out, M.okC_no (by rw [hfk, HUu.out]; exact hq)]
              rfl
            clear hp hfk hq
            have HI3 : Hid (IT w0 W1 Bx Gx Gb Gc D S l x (some ⟨pb, off, none⟩) n cap first (.slice (some ⟨g, 0, none⟩) p.length c) p U (ys ++ (List.range (k + 1)).flatMap G) (wo.alloc (.cells #[.int .i64 p0, .int .i64 p1, .int .i64 p2, .int .i64 p3] 71))) := by
              show IT _ _ _ _ _ _ _ _ _ _ _ _ _ _ _ _ _ _ _
              rw [M.flat_succ, HGk.out, List.append_nil]
              exact HIr.out.below HC.out (b_alloc wo _)
            go_wp2
            go_roundw
            case rel => exact ⟨k + 1, g, c, by omega, by go_num, HI3⟩
            case measure => simp [intOf]; omega
        · obtain rfl : k = n := by omega
          go_wp2
          go_ret
          rw [HX.out]
          exact ⟨rfl, g, c, HIr.out⟩
end V
end Go.Proofs.YtlofnadpgnbmdaaGreat

namespace Go.Proofs.YtlofnadpgnbmdaaGreat.V
set_option maxRecDepth 100000
open Go Go.RowKit
set_option maxRecDepth 100000 in
set_option maxHeartbeats 4000000 in
theorem circuits1 (w0 W1 : World) (Bx Gx Gb Gc D : Nat) (l : List M.Pc) (x : Int) (a : Option Addr) (n cap : Nat) (hC : CK w0 Bx Gx Gb Gc D (D + 2)) (hD : W1.heap.size = D + 2) (hn : Pls w0 a n l) (he : M.evOk l 10) (hn30 : n ≤ 30) (hJ : JB w0 Bx Gx Gb Gc l x a n cap [] W1) (hY : YL w0 W1 Bx Gx Gb Gc D (D + 2) l x a n cap) :
    Calls Tryz.prog 155 #[.func (.yield (D + 1)) #[] #[], .pointer (some ⟨Gc, 0, none⟩)] W1 fun e W' => (∃ v, e = .returned v) ∧ JB w0 Bx Gx Gb Gc l x a n cap (M.allC l 10) W' ∧ W'.heap[D]? = W1.heap[D]? ∧ W'.heap[D + 1]? = W1.heap[D + 1]? ∧ W1.heap.size ≤ W'.heap.size := by
  have hL := hn.1
  obtain ⟨wN, hwN⟩ : ∃ z, z = W1.alloc (.cells #[.int .i64 x, .slice a n cap, .int .i64 0, .slice none 0 0, .bool false, .bool false, .bool false, .bool false, .bool false, .bool false, .bool false, .bool false, .bool false, .bool false, .nilFunc] 165) := ⟨_, rfl⟩
  obtain ⟨wS, hwS⟩ : ∃ z, z = wN.setCell ⟨D + 2, 14, none⟩ (.func (.yield (D + 1)) #[] #[]) := ⟨_, rfl⟩
  have hbN : Below W1.heap.size W1 wN := by rw [hwN]; exact b_alloc W1 _
  have hbS : Below W1.heap.size W1 wS := by rw [hwS]; exact hbN.setCell (p := ⟨D + 2, 14, none⟩) (by show W1.heap.size ≤ D + 2; omega) _
  have hrow : wN.rowIs (D + 2) 165 15 (fun i => if i = 14 then .nilFunc else srF x 0 (.slice a n cap) (.slice none 0 0) (fun _ => false) 0 i) := by
    rw [hwN, ← hD]
    exact World.rowIs_alloc W1 _ _ _ (fun i hi => by
      have : i = 0 ∨ i = 1 ∨ i = 2 ∨ i = 3 ∨ i = 4 ∨ i = 5 ∨ i = 6 ∨ i = 7 ∨ i = 8 ∨ i = 9 ∨ i = 10 ∨ i = 11 ∨ i = 12 ∨ i = 13 ∨ i = 14 := by simp at hi; omega
      rcases this with rfl | rfl | rfl | rfl | rfl | rfl | rfl | rfl | rfl | rfl | rfl | rfl | rfl | rfl | rfl <;> rfl)
  have hq1 := World.rowIs.cell hrow (i := 14) (by omega)
  have hq2 := World.rowIs.frozen hrow 14
  have hst : Sem.run Tryz.prog (store ⟨D + 2, 14, none⟩ (.func (.yield (D + 1)) #[] #[])) (W1.alloc (.cells #[.int .i64 x, .slice a n cap, .int .i64 0, .slice none 0 0, .bool false, .bool false, .bool false, .bool false, .bool false, .bool false, .bool false, .bool false, .bool false, .bool false, .nilFunc] 165)) = .ok () wS := by
    rw [run_store _ _ _ _ _ rfl, ← hwN, hwS]
    simp [stored, hq1, hq2]
  have hI0 : IT w0 W1 Bx Gx Gb Gc D (D + 2) l x a n cap 0 (.slice none 0 0) [] (fun _ => false) [] wS := by
    obtain ⟨j1, j2⟩ := hJ.ch hC (Ch.of_below hbS)
    refine ⟨?_, own_nil _ _, j1, (fun q _ e => by cases e), hbS.block _ (by omega), hbS.block _ (by omega), hbS.size, by omega⟩
    rw [hwS]
    exact (World.rowIs.set hrow 14 _).congr fun i hi => by
      by_cases e : i = 14
      · subst e; rfl
      · show (if i = 14 then _ else if i = 14 then _ else _) = _
        rw [if_neg e, if_neg e]
        unfold srF
        by_cases e0 : i = 0
        · rw [if_pos e0, if_pos e0]
        · rw [if_neg e0, if_neg e0]
          by_cases e1 : i = 1
          · rw [if_pos e1, if_pos e1]
          · rw [if_neg e1, if_neg e1]
            by_cases e2 : i = 2
            · rw [if_pos e2, if_pos e2]
            · rw [if_neg e2, if_neg e2]
              by_cases e3 : i = 3
              · rw [if_pos e3, if_pos e3]
              · rw [if_neg e3, if_neg e3, if_neg e, if_neg e]
  obtain ⟨G, hG⟩ : ∃ G : Nat → List (List Int), G = fun i : Nat => if M.frI l i ≤ M.toI l i then M.extC l 10 [(i : Int)] else [] := ⟨_, rfl⟩
  have HX : Hid (M.allC l 10 = (List.range n).flatMap G) := by show _ = _; rw [hG, ← hL]; rfl
  have HGg : Hid (∀ i : Nat, G i = if M.frI l i ≤ M.toI l i then M.extC l 10 [(i : Int)] else []) := fun i => by rw [hG]
  have HEX := Lib.hid (extendC w0 W1 Bx Gx Gb Gc D (D + 2) l x a n cap hC hn he hn30 hY 10)
  have HC := Lib.hid hC
  have HN := Lib.hid hn
  have HL := Lib.hid hL
  have HEv := Lib.hid he
  have HI0 := Lib.hid hI0
  have HZn : Hid (Below W1.heap.size W1 wS) := hbS
  obtain ⟨g0, g1⟩ := hJ.2.2.2.1
  have HGS : Hid (GBox wS Gc x a n cap) := hI0.2.2.1.2.2.2.1
  have hU : ∀ z : Nat, z < 10 → (fun _ : Nat => false) z = M.hasB (([] : List Int).map (M.toI l)) (z : Int) := fun z _ => rfl
  have HU := Lib.hid hU
  clear hC hn he hJ hY hL hG hI0 hbS hbN hrow hq1 hq2 hwS hwN hU
  go_enter Tryz.func155, Tryz.ntmps155
  have gS := HGS.out
  obtain ⟨k0, k1⟩ := gS
  go_wp2
  clear g0 g1 k0 k1 hst
  go_loopw [4, 5, 12] (fun _ _ kv wr => ∃ (k : Nat) (first : Int) (b : Option Addr) (c : Nat), k ≤ n ∧ kv = .int .i64 k ∧ Hid (IT w0 W1 Bx Gx Gb Gc D (D + 2) l x a n cap first (.slice b 0 c) [] (fun _ => false) ((List.range k).flatMap G) wr)) (fun _ _ kv _ => n - (intOf kv).toNat)
  case atStart => exact ⟨0, 0, none, 0, Nat.zero_le _, rfl, HI0⟩
  case round =>
    obtain ⟨k, first, b, c, hk, rfl, HIr⟩ := hrel
    obtain ⟨wo, rfl⟩ : ∃ z, z = wr := ⟨_, rfl⟩
    clear HI0
    by_cases hkn : k < n
    · have hki : (k : Int) < (n : Int) := by omega
      obtain ⟨pb, off, p0, p1, p2, p3, rfl, hpd, hp, c0, c1, c2, c3⟩ := (HN.out.below HIr.out.2.2.1.1).at k hkn
      have HFk : Hid (M.frI l (k : Int) = p0) := by show (l.getD k M.pz).1 = p0; rw [hp]
      have HIA := Lib.hid (HIr.out.setFirst HC.out p0 : IT w0 W1 Bx Gx Gb Gc D (D + 2) l x (some ⟨pb, off, none⟩) n cap p0 (.slice b 0 c) [] (fun _ => false) ((List.range k).flatMap G) (wo.setCell ⟨D + 2, 2, none⟩ (.int .i64 p0)))
      have HIB := Lib.hid (HIA.out.below HC.out (b_alloc _ (.cells #[.int .i64 p0, .int .i64 p1, .int .i64 p2, .int .i64 p3] 71)))
      have hSlt := HIr.out.1.lt
      have s2o := HIr.out.1.c2
      have f2o := HIr.out.1.fz 2
      have HOk : Hid (p0 ≤ M.toI l (k : Int) → (fun _ : Nat => false) (M.toI l (k : Int)).toNat = false → M.PthC l (([] : List Int) ++ [(k : Int)]) ∧ M.frI l ((([] : List Int) ++ [(k : Int)]).getD 0 0) = p0) := fun h1 _ =>
        ⟨M.pth_one (by rw [HL.out]; exact hkn) (by rw [HFk.out]; exact h1), HFk.out⟩
      have HEq : Hid ((List.range k).flatMap G ++ (if p0 ≤ M.toI l (k : Int) ∧ (fun _ : Nat => false) (M.toI l (k : Int)).toNat = false then M.extC l 10 (([] : List Int) ++ [(k : Int)]) else []) = (List.range (k + 1)).flatMap G) := by
        show _ = _
        rw [M.flat_succ, HGg.out, HFk.out]
        simp
      have HTk := Lib.hid (takeC w0 W1 Bx Gx Gb Gc D (D + 2) l x (some ⟨pb, off, none⟩) n cap HC.out HN.out HEv.out 10 HEX.out p0 b c [] (fun _ => false) ((List.range k).flatMap G) k _ HIB.out hkn (by simp) HOk.out HU.out (by simp))
      rw [HEq.out] at HTk
      clear hp HOk HEq
      go_wp2_with fail
      refine HTk.out.mono ?_
      rintro e w3 ⟨rfl, b3, c3', hI3⟩
      have HI3 := Lib.hid hI3
      clear hI3 HTk c0 c1 c2 c3 s2o f2o
      go_wp2
      go_roundw
      case rel => exact ⟨k + 1, p0, b3, c3', by omega, by go_num, HI3⟩
      case measure => simp [intOf]; omega
    · obtain rfl : k = n := by omega
      go_wp2
      go_end0
      obtain ⟨-, -, h3, -, h5, h6, h7, -⟩ := HIr.out
      rw [HX.out]
      exact ⟨⟨_, rfl⟩, h3, h5, h6, h7⟩
set_option maxRecDepth 100000 in
set_option maxHeartbeats 400000 in
theorem circuitsC (x : Int) (a : Option Addr) (n cap : Nat) (w : World) :
    Calls Tryz.prog 128 #[.agg #[.int .i64 x, .slice a n cap]] w fun e w' => e = .returned (.func (.func 155) #[] #[.pointer (some ⟨w.heap.size, 0, none⟩)]) ∧ w' = w.alloc (.cells #[.int .i64 x, .slice a n cap] 26) := by
  go_enter Tryz.func128, Tryz.ntmps128
  go_wp2
  go_ret
  exact ⟨rfl, rfl⟩
end Go.Proofs.YtlofnadpgnbmdaaGreat.V
