/- Texts laid together: Arc. -/
import Derived.Test.YthonlfjjgmmnpaaQf7
import Derived.Test.YthonlfjjgmmnpaaQf10
import Derived.Maps.RangeWalk
import Derived.DeepKeys4
namespace Go.Proofs.Ythonlfjjgmmnpaa.V
set_option maxRecDepth 100000
open Go.RowKit Go.Maps
abbrev arcV (f t : Nat) : Value := .agg #[.int .i64 (f : Int), .int .i64 (t : Int)]
def akey (f t : Nat) : Lit := .string (keyBytes [.int .i64 (f : Int), .int .i64 (t : Int)])
theorem arcLaid : laidOutB Try.prog = true := by kernel_rfl
theorem arcRowLt : (55 : TypeId) < Try.prog.types.size := of_decide_eq_true (by kernel_rfl)
theorem arcWide : (match Try.prog.underlying 55 with | some (.array _ _) | some (.struct _) => true | _ => false) = true := by rw [Try.underlying55]
theorem keyA : Keyed Try.prog 55 := Keyed.of_law (deep_law_laid arcLaid (m := 2) (by omega) arcRowLt (by kernel_rfl) arcWide)
theorem arcKeyType : Try.prog.keyType 55 = true := by kernel_rfl
theorem arcCells : Try.prog.cellsOf 55 = 2 := by kernel_rfl
theorem arcCells1 : Try.prog.cellsOf 2 = 1 := by kernel_rfl
theorem typesPos : ∃ m, Try.prog.types.size = m + 1 := ⟨_, (Nat.succ_pred_eq_of_pos (Nat.lt_of_le_of_lt (Nat.zero_le _) arcRowLt)).symm⟩
theorem akeyAt (f t : Nat) (hf : f < 1000) (ht : t < 1000) : keyOf Try.prog 55 (arcV f t) = some (akey f t) := by
  obtain ⟨m, hm⟩ := typesPos
  have w1 : (Lit.int .i64 (f : Int)).wf = true := WalkArith.wf_i64 (by omega)
  have w2 : (Lit.int .i64 (t : Int)).wf = true := WalkArith.wf_i64 (by omega)
  unfold keyOf
  rw [Try.underlying55]
  have hfm : (arcV f t).formed Try.prog 55 = true := by simp [Value.formed, Try.underlying55, arcCells]
  simp only [arcKeyType, hfm, Bool.and_self, if_true]
  rw [hm]
  simp [Program.keyLits, Try.underlying55, Try.underlying2, arcCells, arcCells1, Value.cells, w1, w2, akey]
theorem akey_inj {f t f' t' : Nat} (h1 : f < 1000) (h2 : t < 1000) (h3 : f' < 1000) (h4 : t' < 1000) (h : akey f t = akey f' t') : f = f' ∧ t = t' := by
  have e := keyA.inj (akeyAt f t h1 h2) (by rw [h]; exact akeyAt f' t' h3 h4)
  injection e with e
  simp at e
  exact ⟨by omega, by omega⟩
theorem akeyKey (f t : Nat) : WideAt.IsKeyLit (akey f t) := trivial
/-- The datum holds the set S of pairs of nodes. -/
def IsArcD (D : DataW Unit) (n : Nat) (S : Nat → Nat → Bool) : Prop :=
  IsMap D ∧ (∀ f t, f < n → t < n → D.atKey (akey f t) (.lit (.bool false)) = .lit (.bool (S f t))) ∧ (∀ f t, f < n → t < n → Maps.has D (akey f t) = S f t) ∧ (∀ kl, Maps.has D kl = true → ∃ f t, f < n ∧ t < n ∧ kl = akey f t)
/-- Block b is a map of at most m arcs. -/
def IsArcs (w : World) (b n m : Nat) (S : Nat → Nat → Bool) : Prop :=
  ∃ D : DataW Unit, w.ownsMap Try.prog 55 (plainElem Try.prog 4) b m D ∧ IsArcD D n S
theorem IsArcs.lt {w : World} {b n m : Nat} {S : Nat → Nat → Bool} (h : IsArcs w b n m S) : b < w.heap.size := by
  obtain ⟨D, h, -⟩ := h
  exact h.lt
theorem IsArcs.block {w w' : World} {b n m : Nat} {S : Nat → Nat → Bool} (h : IsArcs w b n m S) (e : w'.heap[b]? = w.heap[b]?) : IsArcs w' b n m S := by
  obtain ⟨D, ⟨es, clock, hb, F, hs, hD⟩, h2⟩ := h
  exact ⟨D, ⟨es, clock, e.trans hb, F, hs, hD⟩, h2⟩
theorem IsArcs.below {w w' : World} {B b n m : Nat} {S : Nat → Nat → Bool} (h : IsArcs w b n m S) (hb : Below B w w') (hB : b < B) : IsArcs w' b n m S := h.block (hb.block b hB)
theorem IsArcs.mono {w : World} {b n m m' : Nat} {S : Nat → Nat → Bool} (h : IsArcs w b n m S) (hm : m ≤ m') : IsArcs w b n m' S := by
  obtain ⟨D, h1, h2⟩ := h
  exact ⟨D, h1.mono hm, h2⟩
theorem IsArcD.congr {D : DataW Unit} {n : Nat} {S S' : Nat → Nat → Bool} (h : IsArcD D n S) (e : ∀ f t, f < n → t < n → S f t = S' f t) : IsArcD D n S' := by
  obtain ⟨h1, h2, h3, h4⟩ := h
  exact ⟨h1, fun f t hf ht => by rw [h2 f t hf ht, e f t hf ht], fun f t hf ht => by rw [h3 f t hf ht, e f t hf ht], h4⟩
theorem IsArcs.congr {w : World} {b n m : Nat} {S S' : Nat → Nat → Bool} (h : IsArcs w b n m S) (e : ∀ f t, f < n → t < n → S f t = S' f t) : IsArcs w b n m S' := by
  obtain ⟨D, h1, h2⟩ := h
  exact ⟨D, h1, h2.congr e⟩
theorem isArcs_made (w : World) (n : Nat) : IsArcs (w.alloc (.map #[] 0)) w.heap.size n 0 (fun _ _ => false) :=
  ⟨.map [], World.ownsMap_made _ _ _ _, ⟨[], rfl⟩, fun _ _ _ _ => rfl, fun _ _ _ _ => rfl, fun kl h => by cases h⟩
theorem IsArcs.look {w : World} {b n m : Nat} {S : Nat → Nat → Bool} (h : IsArcs w b n m S) (hn : n ≤ 10) (f t : Nat) (hf : f < n) (ht : t < n) : (Instr.lookup 45 (.map (some b)) (arcV f t) false).run Try.prog w = .ok (.bool (S f t)) w := by
  obtain ⟨D, h1, -, h3, -⟩ := h
  obtain ⟨v, ps, hr, hv⟩ := h1.lookup keyA Try.underlying45 (zeroB w) (plainElem_bool Try.underlying4 false) (akeyAt f t (by omega) (by omega))
  rw [h3 f t hf ht] at hv
  obtain ⟨x, rfl, hz⟩ := plainElem_bool_inv hv
  simp only [Prod.mk.injEq, DataW.lit.injEq, Lit.bool.injEq] at hz
  rw [hr, hz.1]
theorem IsArcD.put {D : DataW Unit} {n : Nat} {S : Nat → Nat → Bool} (h : IsArcD D n S) (hn : n ≤ 10) {f t : Nat} (hf : f < n) (ht : t < n) : IsArcD (D.put (akey f t) (.lit (.bool true))) n (M.upd2 S f t) := by
  obtain ⟨h1, h2, h3, h4⟩ := h
  have hne : ∀ f' t', f' < n → t' < n → ¬ (f' = f ∧ t' = t) → akey f' t' ≠ akey f t := fun f' t' a b c e => c (akey_inj (by omega) (by omega) (by omega) (by omega) e)
  have hu : ∀ f' t', ¬ (f' = f ∧ t' = t) → M.upd2 S f t f' t' = S f' t' := fun f' t' c => by
    unfold M.upd2
    by_cases a : f' = f
    · by_cases b : t' = t
      · exact absurd ⟨a, b⟩ c
      · simp [b]
    · simp [a]
  refine ⟨h1.put _ _, fun f' t' a b => ?_, fun f' t' a b => ?_, fun kl hk => ?_⟩
  · by_cases c : f' = f ∧ t' = t
    · obtain ⟨rfl, rfl⟩ := c
      rw [atKey_put_same h1 (akeyKey _ _)]
      unfold M.upd2; simp
    · rw [atKey_put_other (hne f' t' a b c), h2 f' t' a b, hu f' t' c]
  · by_cases c : f' = f ∧ t' = t
    · obtain ⟨rfl, rfl⟩ := c
      rw [has_put_same h1 (akeyKey _ _)]
      unfold M.upd2; simp
    · rw [has_put_other (hne f' t' a b c), h3 f' t' a b, hu f' t' c]
  · by_cases c : kl = akey f t
    · exact ⟨f, t, hf, ht, c⟩
    · rw [has_put_other c] at hk
      exact h4 kl hk
theorem wpList_putA (w : World) {ops : Array Oper} {rest : List Oper} {o : Oper} {a : Act} {Q : Exit → Act → World → Prop}
    (hg : o.guard = none) (m x v : Operand) (hop : o.op = Op.mapUpdate 45 m x v) (b n M0 : Nat) (S : Nat → Nat → Bool) (f t : Nat)
    (hm : a.eval m = .map (some b)) (hown : IsArcs w b n M0 S) (hn : n ≤ 10) (hM : M0 < 1000) (hf : f < n) (ht : t < n) (hx : a.eval x = arcV f t) (hv : a.eval v = .bool true)
    (hK : ∀ w', IsArcs w' b n (M0 + 1) (M.upd2 S f t) → w.grownBy w' (some b) → wpList Try.prog ops Q rest (a.put o.dst undef) w') :
    wpList Try.prog ops Q (o :: rest) a w := by
  obtain ⟨D, h1, h2⟩ := hown
  exact wpList_mapUpdate_own w hg m x v 45 hop 55 4 keyA Try.underlying45 _ b M0 D hm h1 (by unfold maxLen; omega) _ _ _ hx hv (akeyAt f t (by omega) (by omega)) _ [] (plainElem_bool Try.underlying4 true) fun w' h' hg' => hK w' ⟨_, h', h2.put hn hf ht⟩ hg'
/-- A range over the arcs of block b, by the iterator r: L tells which of the arcs S are still to come. -/
def RngA (w : World) (b r n m : Nat) (S L : Nat → Nat → Bool) (cnt : Nat) : Prop :=
  ∃ (D : DataW Unit) (left : Lit → Bool), w.ranges Try.prog 55 (plainElem Try.prog 4) b r m D left cnt ∧ IsArcD D n S ∧ (∀ kl, left kl = true → Maps.has D kl = true) ∧ ∀ f t, f < n → t < n → left (akey f t) = L f t
theorem RngA.owns {w : World} {b r n m cnt : Nat} {S L : Nat → Nat → Bool} (h : RngA w b r n m S L cnt) : IsArcs w b n m S := by
  obtain ⟨D, left, h1, h2, -⟩ := h
  exact ⟨D, h1.owns, h2⟩
theorem RngA.lt {w : World} {b r n m cnt : Nat} {S L : Nat → Nat → Bool} (h : RngA w b r n m S L cnt) : r < w.heap.size := by
  obtain ⟨D, left, h1, -⟩ := h
  exact h1.lt
theorem RngA.left_eq {w : World} {b r n m cnt : Nat} {S L : Nat → Nat → Bool} (h : RngA w b r n m S L cnt) : w.rangeLeft b r = cnt := by
  obtain ⟨D, left, h1, -⟩ := h
  exact h1.left_eq
theorem RngA.blocks {w w' : World} {b r n m cnt : Nat} {S L : Nat → Nat → Bool} (h : RngA w b r n m S L cnt) (e1 : w'.heap[b]? = w.heap[b]?) (e2 : w'.heap[r]? = w.heap[r]?) : RngA w' b r n m S L cnt := by
  obtain ⟨D, left, ⟨es, clock, since, seen, c0, hb, F, hs, hD, hr, rest⟩, h2⟩ := h
  exact ⟨D, left, ⟨es, clock, since, seen, c0, e1.trans hb, F, hs, hD, e2.trans hr, rest⟩, h2⟩
theorem wpList_rangeA (w : World) {ops : Array Oper} {rest : List Oper} {o : Oper} {a : Act} {Q : Exit → Act → World → Prop}
    (hg : o.guard = none) (m : Operand) (hop : o.op = Op.range 45 m) (b n M0 : Nat) (S : Nat → Nat → Bool)
    (hm : a.eval m = .map (some b)) (hown : IsArcs w b n M0 S)
    (hK : ∀ w' cnt, RngA w' b w.heap.size n M0 S S cnt → cnt ≤ M0 → w.grownBy w' none → w'.heap.size = w.heap.size + 1 → wpList Try.prog ops Q rest (a.put o.dst (.pointer (some ⟨w.heap.size, 0, none⟩))) w') :
    wpList Try.prog ops Q (o :: rest) a w := by
  obtain ⟨D, h1, h2⟩ := hown
  have hsz : Maps.size D ≤ M0 := by
    obtain ⟨es, clock, -, -, hle, rfl⟩ := h1
    simp only [Maps.size, length_sorted, List.length_map]
    simpa using hle
  exact wpList_range_own w hg m 45 hop 55 4 keyA Try.underlying45 _ b M0 D hm h1 fun w' hr hgr hz => hK w' _ ⟨D, _, hr, h2, fun _ h => h, h2.2.2.1⟩ hsz hgr hz
def strike (L : Nat → Nat → Bool) (f t a b : Nat) : Bool := L a b && !(decide (a = f) && decide (b = t))
theorem wpList_nextA (w : World) {ops : Array Oper} {rest : List Oper} {o : Oper} {a : Act} {Q : Exit → Act → World → Prop}
    (hg : o.guard = none) (it : Operand) (hop : o.op = Op.next it false) (b r n M0 : Nat) (S L : Nat → Nat → Bool) (cnt : Nat) (hn : n ≤ 10)
    (hit : a.eval it = .pointer (some ⟨r, 0, none⟩)) (h : RngA w b r n M0 S L cnt)
    (hDone : (∀ f t, f < n → t < n → L f t = false) → wpList Try.prog ops Q rest (a.put o.dst (.tuple #[.bool false])) w)
    (hMore : ∀ (f t : Nat) (w' : World) (cnt' : Nat), f < n → t < n → L f t = true → S f t = true → RngA w' b r n M0 S (strike L f t) cnt' → cnt' < cnt → w.grownBy w' (some r) → w'.heap.size = w.heap.size →
      (Instr.entry (.pointer (some ⟨r, 0, none⟩))).run Try.prog w' = .ok (.tuple #[arcV f t, .bool true]) w' → wpList Try.prog ops Q rest (a.put o.dst (.tuple #[.bool true, arcV f t, .bool true])) w') :
    wpList Try.prog ops Q (o :: rest) a w := by
  obtain ⟨D, left, h1, h2, h3, h4⟩ := h
  refine wpList_plain hg fun K' hK' => ?_
  unfold Oper.wp
  rcases h1.next keyA o.type with ⟨h0, hl, hrun⟩ | ⟨key, v, kl, y, w', cnt', hkey, hlk, hv, hat, hrun, hrg, hlt, hgr, hsz, hen⟩
  · simp [execOp, hop, hit, hrun, Result.andThen]
    exact hK' _ _ (hDone fun f t hf ht => by rw [← h4 f t hf ht, hl])
  · obtain ⟨f, t, hf, ht, rfl⟩ := h2.2.2.2 kl (h3 kl hlk)
    obtain rfl := keyA.inj hkey (akeyAt f t (by omega) (by omega))
    obtain ⟨x, rfl, hz⟩ := plainElem_bool_inv hv
    have hS : S f t = true := by rw [← h2.2.2.1 f t hf ht]; exact h3 _ hlk
    have hx : x = true := by
      have e := hat (.lit (.bool false))
      rw [h2.2.1 f t hf ht, hS, hz] at e
      injection e with e
      injection e with e
      exact e.symm
    subst hx
    simp [execOp, hop, hit, hrun, Result.andThen]
    refine hK' _ _ (hMore f t w' cnt' hf ht (by rw [← h4 f t hf ht]; exact hlk) hS ⟨D, _, hrg, h2, fun kl hk => h3 kl (by simp at hk; exact hk.1), fun f' t' a b => ?_⟩ hlt hgr hsz hen)
    show (left (akey f' t') && !(akey f' t').sameKey (akey f t)) = strike L f t f' t'
    unfold strike
    rw [h4 f' t' a b]
    congr 1
    by_cases c : f' = f ∧ t' = t
    · obtain ⟨rfl, rfl⟩ := c
      rw [WideAt.sameKey_self (akeyKey _ _)]; simp
    · have hne : akey f' t' ≠ akey f t := fun e => c (akey_inj (by omega) (by omega) (by omega) (by omega) e)
      rw [sameKey_ne hne]
      by_cases p : f' = f
      · by_cases q : t' = t
        · exact absurd ⟨p, q⟩ c
        · simp [q]
      · simp [p]
end Go.Proofs.Ythonlfjjgmmnpaa.V
