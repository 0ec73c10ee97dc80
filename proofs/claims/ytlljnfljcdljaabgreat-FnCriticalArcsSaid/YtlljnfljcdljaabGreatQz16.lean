/- Texts laid together: Aka, Akb, Sap, Srf, Akc, Cra, OpenM. -/
import Derived.Test.YtlljnfljcdljaabGreatQz1
import Derived.Test.YtlljnfljcdljaabGreatQz7
import Derived.Sort.MapsRangeIn
import Derived.Maps.AppendAt
import Derived.RangeFuncBox
import Derived.Deep.AppendLies
import Derived.Laws.IdiomRangeMap
import Derived.Shelf.SlSortCmp.NoneTotal
import Derived.Shelf.SlGeneric
import Derived.Ground.SlsfProg
import Derived.Test.YtlljnfljcdljaabGreatProg
import Derived.Test.YtlljnfljcdljaabGreatQz11
import Derived.Test.YtlljnfljcdljaabGreatQz14
import Derived.Test.YtlljnfljcdljaabGreatQz15
import Derived.Test.YtlljnfljcdljaabGreatRows
import Derived.Test.YtlljnfljcdljaabGreatQz2
import Derived.Test.YtlljnfljcdljaabGreatQz4
import Derived.WalkKit
import Derived.ProofKit
import Derived.WalkSmall
import Derived.Deep.QuietTactic
import Derived.BigQuiet
import Derived.BigRegion
import Derived.Deep.Draws
import Derived.Deep.OwnRows
import Derived.Deep.Onto
import Derived.Lib.Hide
import Derived.Test.YtlljnfljcdljaabGreatQz5
import Derived.Deep.Matrix
set_option linter.unusedSimpArgs false
set_option linter.unusedVariables false
set_option linter.unusedSectionVars false
namespace Go.Proofs.YtlljnfljcdljaabGreat.V
set_option maxRecDepth 100000
open Go Go.RowKit Go.Maps Go.Shelf
attribute [local go_sem] Oper.semAt_some
theorem RngA.of_walks {w w' : World} {b r n m cnt : Nat} {S L : Nat → Nat → Bool} (h : RngA w b r n m S L cnt) (hk : KeepsWalks w w') : RngA w' b r n m S L cnt := by
  obtain ⟨D, left, h1, h2⟩ := h
  exact ⟨D, left, h1.of_walks hk, h2⟩
theorem RngA.iter_walk {w : World} {b r n m cnt : Nat} {S L : Nat → Nat → Bool} (h : RngA w b r n m S L cnt) : ∃ o : Obj, w.heap[r]? = some o ∧ o.isWalk = true := by
  obtain ⟨D, left, h1, h2⟩ := h
  exact h1.iter_walk
theorem wpListIn_rangeA {F : Fence} {nF : Nat} (w : World) {ops : Array Oper} {rest : List Oper} {o : Oper} {a : Act} {Q : Exit → Act → World → Prop}
    (hg : o.guard = none) (m : Operand) (hop : o.op = Op.range 45 m) (b n M0 : Nat) (S : Nat → Nat → Bool)
    (hm : a.eval m = .map (some b)) (hown : IsArcs w b n M0 S)
    (hK : ∀ w' cnt, RngA w' b w.heap.size n M0 S S cnt → cnt ≤ M0 → w.grownBy w' none → w'.heap.size = w.heap.size + 1 → wpListIn F nF Tryz.prog ops Q rest (a.put o.dst (.pointer (some ⟨w.heap.size, 0, none⟩))) w') :
    wpListIn F nF Tryz.prog ops Q (o :: rest) a w := by
  obtain ⟨D, h1, h2⟩ := hown
  have hsz : Maps.size D ≤ M0 := by
    obtain ⟨es, clock, -, -, hle, rfl⟩ := h1
    simp only [Maps.size, length_sorted, List.length_map]
    simpa using hle
  exact wpListIn_range_own w hg m 45 hop 51 4 keyA Tryz.underlying45 _ b M0 D hm h1 fun w' hr hgr hz => hK w' _ ⟨D, _, hr, h2, fun _ h => h, h2.2.2.1⟩ hsz hgr hz
theorem wpListIn_nextA {F : Fence} {nF : Nat} (w : World) {ops : Array Oper} {rest : List Oper} {o : Oper} {a : Act} {Q : Exit → Act → World → Prop}
    (hg : o.guard = none) (it : Operand) (hop : o.op = Op.next it false) (b r n M0 : Nat) (S L : Nat → Nat → Bool) (cnt : Nat) (hn : n ≤ 10)
    (hit : a.eval it = .pointer (some ⟨r, 0, none⟩)) (h : RngA w b r n M0 S L cnt)
    (hDone : (∀ f t, f < n → t < n → L f t = false) → wpListIn F nF Tryz.prog ops Q rest (a.put o.dst (.tuple #[.bool false])) w)
    (hMore : ∀ (f t : Nat) (w' : World) (cnt' : Nat), f < n → t < n → L f t = true → S f t = true → RngA w' b r n M0 S (strike L f t) cnt' → cnt' < cnt → w.grownBy w' (some r) → w'.heap.size = w.heap.size →
      (Instr.entry (.pointer (some ⟨r, 0, none⟩))).run Tryz.prog w' = .ok (.tuple #[arcV f t, .bool true]) w' → wpListIn F nF Tryz.prog ops Q rest (a.put o.dst (.tuple #[.bool true, arcV f t, .bool true])) w') :
    wpListIn F nF Tryz.prog ops Q (o :: rest) a w := by
  obtain ⟨D, left, h1, h2, h3, h4⟩ := h
  refine wpListIn_plain hg fun K' hK' => ?_
  unfold Oper.wpIn
  refine ⟨by simp [Oper.about, hop], ?_⟩
  rw [Oper.semAt_plain F _ _ (by rw [hop]; intro c hc'; cases hc')]
  rcases h1.next keyA o.type with ⟨h0, hl, hrun⟩ | ⟨key, v, kl, y, w', cnt', hkey, hlk, hv, hat, hrun, hrg, hlt, hgr, hsz, hen⟩
  · simp [execOp, hop, hit, hrun, Result.andThen]
    exact hK' _ _ (hDone fun f t hf ht => by rw [← h4 f t hf ht, hl])
  · obtain ⟨f, t, hf, ht, rfl⟩ := h2.2.2.2 kl (h3 kl hlk)
    obtain rfl := keyA.inj hkey (akeyAt f t (by omega) (by omega))
    obtain ⟨x, rfl, hz⟩ := plainElem_bool_inv hv
    have hS : S f t = true := by rw [← h2.2.2.1 f t hf ht]; exact h3 _ hlk
    have hx : x = true := by
      have e := hat (.lit (.bool false))
      rw [h2.2.1 f t hf ht, hS, hz] at e
      injection e with e
      injection e with e
      exact e.symm
    subst hx
    simp [execOp, hop, hit, hrun, Result.andThen]
    refine hK' _ _ (hMore f t w' cnt' hf ht (by rw [← h4 f t hf ht]; exact hlk) hS ⟨D, _, hrg, h2, fun kl hk => h3 kl (by simp at hk; exact hk.1), fun f' t' a b => ?_⟩ hlt hgr hsz hen)
    show (left (akey f' t') && !(akey f' t').sameKey (akey f t)) = strike L f t f' t'
    unfold strike
    rw [h4 f' t' a b]
    congr 1
    by_cases c : f' = f ∧ t' = t
    · obtain ⟨rfl, rfl⟩ := c
      rw [WideAt.sameKey_self (akeyKey _ _)]; simp
    · have hne : akey f' t' ≠ akey f t := fun e => c (akey_inj (by omega) (by omega) (by omega) (by omega) e)
      rw [sameKey_ne hne]
      by_cases p : f' = f
      · by_cases q : t' = t
        · exact absurd ⟨p, q⟩ c
        · simp [q]
      · simp [p]
/-- The list holds each arc of S once. -/
def ArcsOf (n : Nat) (S : Nat → Nat → Bool) (ss : List (Nat × Nat)) : Prop := ss.Nodup ∧ ∀ f t, (f, t) ∈ ss ↔ f < n ∧ t < n ∧ S f t = true
def ArcsBut (n : Nat) (S L : Nat → Nat → Bool) (ss : List (Nat × Nat)) : Prop := ss.Nodup ∧ ∀ f t, (f, t) ∈ ss ↔ f < n ∧ t < n ∧ S f t = true ∧ L f t = false
theorem ArcsBut.start (n : Nat) (S : Nat → Nat → Bool) : ArcsBut n S S [] := ⟨List.nodup_nil, fun f t => ⟨fun h => by simp at h, fun ⟨_, _, h1, h2⟩ => by rw [h1] at h2; cases h2⟩⟩
theorem ArcsBut.done {n : Nat} {S L : Nat → Nat → Bool} {ss : List (Nat × Nat)} (h : ArcsBut n S L ss) (hl : ∀ f t, f < n → t < n → L f t = false) : ArcsOf n S ss :=
  ⟨h.1, fun f t => (h.2 f t).trans ⟨fun ⟨h1, h2, h3, _⟩ => ⟨h1, h2, h3⟩, fun ⟨h1, h2, h3⟩ => ⟨h1, h2, h3, hl f t h1 h2⟩⟩⟩
theorem ArcsBut.step {n : Nat} {S L : Nat → Nat → Bool} {ss : List (Nat × Nat)} (h : ArcsBut n S L ss) {f t : Nat} (hf : f < n) (ht : t < n) (hl : L f t = true) (hs : S f t = true) : ArcsBut n S (strike L f t) (ss ++ [(f, t)]) := by
  refine ⟨?_, fun f' t' => ?_⟩
  · refine List.nodup_append.2 ⟨h.1, by simp, fun a ha b hb e => ?_⟩
    simp at hb
    subst hb
    subst e
    have := ((h.2 f t).1 ha).2.2.2
    rw [hl] at this; cases this
  · rw [List.mem_append, h.2 f' t', List.mem_singleton]
    unfold strike
    constructor
    · rintro (⟨h1, h2, h3, h4⟩ | e)
      · exact ⟨h1, h2, h3, by rw [h4]; rfl⟩
      · injection e with e1 e2
        subst e1 e2
        exact ⟨hf, ht, hs, by simp⟩
    · rintro ⟨h1, h2, h3, h4⟩
      by_cases c : f' = f ∧ t' = t
      · exact .inr (by rw [c.1, c.2])
      · refine .inl ⟨h1, h2, h3, ?_⟩
        have : (decide (f' = f) && decide (t' = t)) = false := by
          by_cases p1 : f' = f
          · by_cases p2 : t' = t
            · exact absurd ⟨p1, p2⟩ c
            · simp [p2]
          · simp [p1]
        rw [this] at h4
        simpa using h4
abbrev keysName : Nat := 61
set_option maxRecDepth 100000 in
set_option maxHeartbeats 2000000 in
theorem arcKeys1 (l Bm b n m : Nat) (S : Nat → Nat → Bool) (n2 : n ≤ 10) (J Jx : List (Nat × Nat) → World → Prop) (k : Nat) (hk : 1 ≤ k)
    (hY : ∀ pre x W, J pre W → pre.length < m → YieldAt Fence.wide (k - 1) Tryz.prog l #[arcV x.1 x.2] W fun e W' => (e = .returned (.bool true) ∧ J (pre ++ [x]) W' ∧ KeepsWalks W W') ∨ (e = .returned (.bool false) ∧ Jx (pre ++ [x]) W'))
    (W : World) (hJ : AbidesFrom W.heap.size J) (hm : W.cell? ⟨Bm, 0, none⟩ = some (.map (some b))) (hown : IsArcs W b n m S) (h0 : J [] W) :
    CallsIn Fence.wide k Tryz.prog 61 #[.func (.yield l) #[] #[], .pointer (some ⟨Bm, 0, none⟩)] W fun e W' => (∃ v, e = .returned v) ∧ ((∃ ss, (ArcsOf n S ss ∧ ss.length ≤ m) ∧ J ss W') ∨ ∃ pre, Jx pre W') := by
  refine callsIn_of_wp Tryz.func61 rfl trivial ?_ rfl
  simp only [Tryz.ntmps61, List.size_toArray, List.length_cons, List.length_nil, Nat.reduceAdd, Nat.reduceSub, Array.replicate_succ, Array.replicate_zero, List.push_toArray, List.append_toArray, List.nil_append, List.cons_append]
  gi_wp2_with (first
    | (gi_at_range; refine wpListIn_rangeA _ rfl _ rfl b n m S rfl hown ?_; intro w0 cnt0 hrg0 hcm0 hg0 hs0)
    | gi_in)
  go_frame
  gi_loopw [3] (fun _ wr => ∃ (L : Nat → Nat → Bool) (cnt : Nat) (ss : List (Nat × Nat)), RngA wr b W.heap.size n m S L cnt ∧ ss.length + cnt ≤ m ∧ ArcsBut n S L ss ∧ J ss wr ∧ W.heap.size ≤ wr.heap.size)
    (fun _ wr => wr.rangeLeft b W.heap.size)
  case atStart =>
    exact ⟨_, _, [], hrg0, by simpa using hcm0, ArcsBut.start n S, hJ [] W w0 none h0 hg0 (fun r e => by cases e), by omega⟩
  case round =>
    obtain ⟨L, cnt, ss, hrg, hcs, hC, hJs, hsz⟩ := hrel
    gi_wp2_with (first
      | (gi_at_next; refine wpListIn_nextA _ rfl _ rfl b W.heap.size n m S L cnt n2 rfl hrg ?_ ?_)
      | gi_in)
    · intro hl0
      gi_wp2
      go_end0
      exact ⟨⟨_, rfl⟩, .inl ⟨ss, ⟨hC.done hl0, by omega⟩, hJs⟩⟩
    · intro f t w2 cnt2 hf ht hl hs hrg2 hlt hg2 hs2 hen
      have hJ2 : J ss w2 := hJ ss wr w2 (some W.heap.size) hJs hg2 (fun r e => by cases e; exact ⟨Nat.le_refl _, hrg.iter_walk⟩)
      have hC2 := hC.step hf ht hl hs
      have hJ3 : J ss (w2.alloc (.cells #[.int .i64 (f : Int), .int .i64 (t : Int)] 51)) := hJ ss w2 _ none hJ2 (World.grownBy_alloc w2 _ none) (fun r e => by cases e)
      have hrg3 : RngA (w2.alloc (.cells #[.int .i64 (f : Int), .int .i64 (t : Int)] 51)) b W.heap.size n m S (strike L f t) cnt2 := hrg2.of_walks (KeepsWalks.alloc _ _)
      obtain ⟨fn, tmps, assign, body, hy, hR⟩ := hY ss (f, t) _ hJ3 (by omega)
      clear hs2
      gi_wp2
      refine hR.mono ?_
      rintro e W3 (⟨rfl, hJ4, hk3⟩ | ⟨rfl, hJx3⟩)
      · gi_wp2
        have hrg4 := hrg3.of_walks hk3
        have hz3 := hk3.size
        have hz2 := hg2.size
        simp at hz3
        go_roundw
        case rel => exact ⟨_, cnt2, ss ++ [(f, t)], hrg4, by simp; omega, hC2, hJ4, by omega⟩
        case measure => rw [hrg4.left_eq, hrg.left_eq]; exact hlt
      · gi_wp2
        refine bodyPost_ret (results_none rfl _ _ _) rfl ?_
        exact ⟨⟨_, rfl⟩, .inr ⟨ss ++ [(f, t)], hJx3⟩⟩
end Go.Proofs.YtlljnfljcdljaabGreat.V

namespace Go.Proofs.YtlljnfljcdljaabGreat.V
set_option maxRecDepth 100000
open Go Go.RowKit Go.Maps Go.Shelf
attribute [local go_sem] Oper.semAt_some
theorem infoArc : (Tryz.prog.info? 51).map (fun i => (i.zero, i.size, i.bytes)) = some (some (.agg #[.int .i64 0, .int .i64 0]), 2, 16) := by kernel_rfl
/-- Two cells an arc. -/
def arcCellsL (l : List (Nat × Nat)) : List Value := l.flatMap fun p => [.int .i64 (p.1 : Int), .int .i64 (p.2 : Int)]
theorem arcCellsL_snoc (l : List (Nat × Nat)) (p : Nat × Nat) : arcCellsL (l ++ [p]) = arcCellsL l ++ [.int .i64 (p.1 : Int), .int .i64 (p.2 : Int)] := by
  unfold arcCellsL; rw [List.flatMap_append, List.flatMap_singleton]
theorem arcKeys_stops (Bm b n m : Nat) (S : Nat → Nat → Bool) (n2 : n ≤ 10) (k : Nat) (hk : 1 ≤ k) (w : World) (hm : w.cell? ⟨Bm, 0, none⟩ = some (.map (some b))) (hown : IsArcs w b n m S) :
    SeqStopsK Fence.wide k Tryz.prog keysName #[.pointer (some ⟨Bm, 0, none⟩)] (fun x : Nat × Nat => #[arcV x.1 x.2]) KeepsWalks (fun ss => ArcsOf n S ss ∧ ss.length ≤ m) (fun _ => True) m w := by
  intro l J Jx W hW hJ _ hY h0
  refine (arcKeys1 l Bm b n m S n2 J Jx k hk hY W hJ ((hW.cell (p := ⟨Bm, 0, none⟩) (cell_lt hm)).trans hm) (hown.below hW hown.lt) h0).mono ?_
  rintro e W' ⟨h1, h2 | ⟨pre, h2⟩⟩
  · exact ⟨h1, .inl h2⟩
  · exact ⟨h1, .inr ⟨pre, trivial, h2⟩⟩
theorem cells2_new (W : World) (p q : Int) (T : TypeId) (j : Nat) (u : Value) (h : [Value.int .i64 p, .int .i64 q][j]? = some u) : (W.alloc (.cells #[.int .i64 p, .int .i64 q] T)).cell? ((⟨W.heap.size, 0, none⟩ : Addr).add j) = some u := by
  match j with
  | 0 => simp at h; subst h; simp [Addr.add]
  | 1 => simp at h; subst h; simp [Addr.add]
  | j + 2 => simp at h
set_option maxRecDepth 100000 in
set_option maxHeartbeats 1000000 in
theorem arcKeys_stops_nil (Bm k : Nat) (w : World) (hm : w.cell? ⟨Bm, 0, none⟩ = some (.map none)) :
    SeqStopsK Fence.wide k Tryz.prog keysName #[.pointer (some ⟨Bm, 0, none⟩)] (fun x : Nat × Nat => #[arcV x.1 x.2]) KeepsWalks (fun ss => ss = []) (fun _ => False) 0 w := by
  intro l J Jx W hW hJ _ hY h0
  have hm2 := (hW.cell (p := ⟨Bm, 0, none⟩) (cell_lt hm)).trans hm
  refine callsIn_of_wp Tryz.func61 rfl trivial ?_ rfl
  simp only [Tryz.ntmps61, List.size_toArray, List.length_cons, List.length_nil, Nat.reduceAdd, Nat.reduceSub, Array.replicate_succ, Array.replicate_zero, List.push_toArray, List.append_toArray, List.nil_append, List.cons_append]
  have hrg := run_range_nilMap (P := Tryz.prog) W 45 51 4 Tryz.underlying45
  have hnx : ∀ ty, (Instr.next (.pointer (some ⟨W.heap.size, 0, none⟩)) false ty).run Tryz.prog (W.alloc (.mapIter none 0 #[] 0)) = _ := fun ty => run_next_nilMap _ ty 0 0 #[]
  gi_wp2
  refine wpIn_loop_rounds 1 ?_
  rw [roundsIn_succ]
  gi_wp2
  go_end0
  exact ⟨⟨_, rfl⟩, .inl ⟨[], rfl, hJ [] W _ none h0 (World.grownBy_alloc W _ none) (fun r e => by cases e)⟩⟩
set_option maxRecDepth 100000 in
set_option maxHeartbeats 2000000 in
theorem arcAppendSeq (Bm m : Nat) (m2 : m ≤ 100) (S Sp : List (Nat × Nat) → Prop) (w : World) (hseq : SeqStopsK Fence.wide 3 Tryz.prog keysName #[.pointer (some ⟨Bm, 0, none⟩)] (fun x : Nat × Nat => #[arcV x.1 x.2]) KeepsWalks S Sp m w) :
    Calls Tryz.prog 95 #[.slice none 0 0, .func (.func keysName) #[] #[.pointer (some ⟨Bm, 0, none⟩)]] w fun e w' => ∃ v ss, e = .returned v ∧ S ss ∧ w'.ownsRow w.heap.size 51 2 v ss.length (arcCellsL ss) ∧ Below w.heap.size w w' := by
  refine callsIn_wide.1 (callsIn_of_wp_marks (n := 4) Tryz.func95 rfl trivial ?_ rfl)
  simp only [Tryz.ntmps95, List.size_toArray, List.length_cons, List.length_nil, Nat.reduceAdd, Nat.reduceSub, Array.replicate_succ, Array.replicate_zero, List.push_toArray, List.append_toArray, List.nil_append, List.cons_append]
  gi_wp2
  have hbx : Go.Boxed (w.alloc (.cells #[.slice none 0 0] 48)) w.heap.size 48 (.slice none 0 0) := Go.Boxed.new w _ _
  have hsz0 : (w.alloc (.cells #[.slice none 0 0] 48)).heap.size = w.heap.size + 1 := by simp
  have hb0 : Below w.heap.size w (w.alloc (.cells #[.slice none 0 0] 48)) := b_alloc _ _
  obtain ⟨i0, hi, hz0, hz1, hz2⟩ := info_parts infoArc
  generalize w.alloc (.cells #[.slice none 0 0] 48) = W0 at hbx hsz0 hb0 ⊢
  refine wpIn_rangeFunc_ownH (w0 := w) rfl (by omega) (gf := keysName) (lb := #[.pointer (some ⟨Bm, 0, none⟩)]) rfl trivial (enters_of Tryz.func61 (by kernel_rfl) rfl)
    hseq (fun h k => walksK_t h k) (fun W l o o' h1 h2 h3 h4 => walksK_b W l o o' h1 h2 h3 h4) hb0 (fun _ => rfl)
    (fun pre W => (∃ v, Go.Boxed W w.heap.size 48 v ∧ W.ownsRow w.heap.size 51 2 v pre.length (arcCellsL pre) ∧ True) ∧ Below w.heap.size w W)
    (fun _ _ _ => False) ?hI (fun _ _ _ _ _ h _ _ => h.elim) ?h0
    (fun x a' W => ∃ Bx, w.heap.size < Bx ∧ W.heap[Bx]? = some (.cells #[.int .i64 (x.1 : Int), .int .i64 (x.2 : Int)] 51 (0, 0)) ∧ a' = { tmps := #[.slice none 0 0, .func (.func keysName) #[] #[.pointer (some ⟨Bm, 0, none⟩)], .pointer (some ⟨w.heap.size, 0, none⟩), undef, .slice none 0 0, .pointer (some ⟨Bx, 0, none⟩), .func (.func keysName) #[] #[.pointer (some ⟨Bm, 0, none⟩)], arcV x.1 x.2, undef, undef, undef, undef, undef], defers := [] })
    ?hAx ?hassign ?hbody ?hdone ?hstop
  case hI => exact OwnFrom.and (Own.from (holdsRow_own w.heap.size w.heap.size 48 51 2 (fun pre => pre.length) arcCellsL (fun _ _ => True)) _) (ownFrom_below (Nat.le_refl _) (by omega))
  case h0 => exact ⟨⟨_, hbx, World.ownsRow_nil _ _ _ 2, trivial⟩, hb0⟩
  case hAx =>
    rintro x a' _ A B row ⟨Bx, h1, h2, h3⟩ hg hr
    refine ⟨Bx, h1, (hg.block Bx (Array.getElem?_eq_some_iff.1 h2).1 (fun e => ?_)).trans h2, h3⟩
    obtain ⟨-, o, ho, hc⟩ := hr Bx e.symm
    rw [h2] at ho; cases ho; cases hc
  case hstop => exact fun _ _ _ _ _ _ h => h.elim
  case hassign =>
    rintro l pre x W K ⟨⟨v, hv, hr, -⟩, hB⟩ hK
    gi_wp2
    have hlt := hv.lt
    refine hK _ _ ((KeepsOthers.alloc _ _).from _) (KeepsWalks.alloc _ _) ⟨⟨v, hv.alloc _, hr.alloc _, trivial⟩, hB.alloc hB.size _⟩ ⟨W.heap.size, hlt, World.alloc_heap_new W _, rfl⟩
  case hdone =>
    rintro D ys W hD hS ⟨⟨v, hv, hr, -⟩, hB⟩ hK
    have hc := hv.cell
    gi_wp2
    have hlt : W0.heap.size ≤ D := hD
    refine ⟨by simp, .inl ⟨_, _, rfl, run_takeDeferred hK, ?_⟩⟩
    exact ⟨_, results_tmp rfl _ _ _, v, ys, rfl, hS, ownsRow_putObj hr _ hK rfl, hB.trans (belowK_b (w := w) (Nat.le_refl _) W D _ _ (by omega) hK rfl rfl)⟩
  case hbody =>
    rintro l pre x a' W hl ⟨r, hr⟩ ⟨⟨v, hv, hrow, -⟩, hB⟩ ⟨Bx, hBx, bX, rfl⟩ hlt
    have hc := hv.cell
    have hf := hv.frozen
    have hcx0 : W.cell? ⟨Bx, 0, none⟩ = some (.int .i64 (x.1 : Int)) := by simp [World.cell?, bX]
    have hcx1 : W.cell? ⟨Bx, 1, none⟩ = some (.int .i64 (x.2 : Int)) := by simp [World.cell?, bX]
    have hle := hB.size
    gi_wp2_with (gi_at_builtin; refine wpListIn_append_own _ rfl _ _ 48 rfl w.heap.size 51 i0 (.agg #[.int .i64 0, .int .i64 0]) 2 16 Tryz.underlying48 hi hz0 hz1 hz2 rfl (by decide) _ _ _ rfl (hrow.alloc _) ⟨W.heap.size, 0, none⟩ 1 1 [.int .i64 (x.1 : Int), .int .i64 (x.2 : Int)] rfl rfl (cells2_new _ _ _ _) (by simp [Value.oneCell']) (by unfold maxLen; omega) (by omega) (by simp; omega) ?_; intro v' w1 hown' hgrow _; obtain ⟨g', cap', rfl⟩ := ownsRow_succ hown'; obtain ⟨hv1, hv2, hr2, hk2, hb2⟩ := hv.appended (by decide) hrow hle (Nat.le_refl _) hown' hgrow; have hc1 := hv1.cell; have hf1 := hv1.frozen)
    refine ⟨hk2.from _, ⟨hk2.size, fun k o hk ho => hk2.same k o hk (Obj.not_cells_of_walk ho)⟩, ⟨⟨_, hv2, ?_, trivial⟩, hB.trans hb2⟩⟩
    rw [arcCellsL_snoc, List.length_append]
    exact hr2
end Go.Proofs.YtlljnfljcdljaabGreat.V

namespace Go.Proofs.YtlljnfljcdljaabGreat.M
def cN (x y : Nat × Nat) : Int := cA ((x.1 : Int), (x.2 : Int)) ((y.1 : Int), (y.2 : Int))
def ltN (x y : Nat × Nat) : Bool := decide (cN x y < 0)
theorem ltN_iff (x y : Nat × Nat) : ltN x y = true ↔ x.1 < y.1 ∨ (x.1 = y.1 ∧ x.2 < y.2) := by
  unfold ltN cN cA orI cI
  simp only [decide_eq_true_eq]
  by_cases h1 : (x.1 : Int) < (y.1 : Int)
  · rw [if_pos h1]
    simp
    omega
  · rw [if_neg h1]
    by_cases h2 : (y.1 : Int) < (x.1 : Int)
    · rw [if_pos h2]
      simp
      omega
    · rw [if_neg h2]
      simp only [ne_eq, not_true_eq_false, if_false]
      by_cases h3 : (x.2 : Int) < (y.2 : Int)
      · rw [if_pos h3]; omega
      · rw [if_neg h3]
        by_cases h4 : (y.2 : Int) < (x.2 : Int)
        · rw [if_pos h4]; omega
        · rw [if_neg h4]; omega
theorem ltN_false (x y : Nat × Nat) : ltN x y = false ↔ y.1 < x.1 ∨ (y.1 = x.1 ∧ y.2 ≤ x.2) := by
  rw [← Bool.not_eq_true, ltN_iff]; omega
theorem ltN_total (x y : Nat × Nat) (h1 : ltN x y = false) (h2 : ltN y x = false) : x = y := by
  rw [ltN_false] at h1 h2
  exact Prod.ext (by omega) (by omega)
def arcsN (R : List (List Int)) : List (Nat × Nat) := (List.range R.length).flatMap fun j => (List.range R.length).flatMap fun i => if crB R j i then [(j, i)] else []
def arcRowOf (x : Nat × Nat) : List Int := [(x.1 : Int), (x.2 : Int)]
theorem arcsN_map (R : List (List Int)) : (arcsN R).map arcRowOf = arcsL R := by
  unfold arcsN arcsL arcsP arcRow
  rw [List.map_flatMap]
  congr 1
  funext j
  rw [List.map_flatMap]
  congr 1
  funext i
  split <;> rfl
theorem arcsN_mem (R : List (List Int)) (f t : Nat) : (f, t) ∈ arcsN R ↔ f < R.length ∧ t < R.length ∧ crB R f t = true := by
  unfold arcsN
  simp only [List.mem_flatMap, List.mem_range]
  constructor
  · rintro ⟨j, hj, i, hi, h⟩
    split at h
    · rename_i hc
      simp only [List.mem_singleton, Prod.mk.injEq] at h
      obtain ⟨rfl, rfl⟩ := h
      exact ⟨hj, hi, hc⟩
    · simp at h
  · rintro ⟨hf, ht, hc⟩
    exact ⟨f, hf, t, ht, by rw [if_pos hc]; simp⟩
theorem arcsN_lt (R : List (List Int)) : (arcsN R).Pairwise fun x y => ltN x y = true := by
  unfold arcsN
  rw [List.pairwise_flatMap]
  refine ⟨fun j _ => ?_, ?_⟩
  · rw [List.pairwise_flatMap]
    refine ⟨fun i _ => by split <;> simp, ?_⟩
    refine List.Pairwise.imp ?_ (List.pairwise_lt_range (n := R.length))
    intro a b hab x hx y hy
    split at hx
    · split at hy
      · simp only [List.mem_singleton] at hx hy
        subst hx hy
        exact (ltN_iff _ _).2 (.inr ⟨rfl, hab⟩)
      · simp at hy
    · simp at hx
  · refine List.Pairwise.imp ?_ (List.pairwise_lt_range (n := R.length))
    intro a b hab x hx y hy
    simp only [List.mem_flatMap, List.mem_range] at hx hy
    obtain ⟨i, -, hx⟩ := hx
    obtain ⟨k, -, hy⟩ := hy
    split at hx
    · split at hy
      · simp only [List.mem_singleton] at hx hy
        subst hx hy
        exact (ltN_iff _ _).2 (.inl hab)
      · simp at hy
    · simp at hx
theorem sort_arcs {R : List (List Int)} {ss : List (Nat × Nat)} (hnd : ss.Nodup) (hm : ∀ f t, (f, t) ∈ ss ↔ f < R.length ∧ t < R.length ∧ crB R f t = true) : (ss.mergeSort fun x y => !ltN y x) = arcsN R := by
  refine List.Perm.eq_of_pairwise (le := fun x y => ltN y x = false) (fun x y _ _ h1 h2 => ltN_total x y h2 h1) ?_ ?_ ?_
  · refine (List.pairwise_mergeSort (le := fun x y => !ltN y x) (fun a b c h1 h2 => ?_) (fun a b => ?_) ss).imp (fun h => by simpa using h)
    · simp only [Bool.not_eq_true', ltN_false] at *; omega
    · simp only [Bool.or_eq_true, Bool.not_eq_true', ltN_false]; omega
  · refine (arcsN_lt R).imp fun {a b} h => ?_
    rw [ltN_iff] at h
    rw [ltN_false]; omega
  · refine (List.mergeSort_perm ss _).trans ((List.perm_ext_iff_of_nodup hnd ?_).2 fun ⟨f, t⟩ => by rw [hm, arcsN_mem])
    refine (arcsN_lt R).imp fun {a b} h e => ?_
    subst e
    rw [ltN_iff] at h; omega
end Go.Proofs.YtlljnfljcdljaabGreat.M

namespace Go.Proofs
open Go.Shelf
def Tryz.sortArc_ren : Go.Shelf.Ren := ⟨fun | 6 => 60 | 15 => 97 | 14 => 96 | 28 => 124 | 29 => 125 | 20 => 116 | 21 => 117 | 22 => 118 | 23 => 119 | 24 => 120 | 25 => 121 | 26 => 122 | 27 => 123 | 46 => 140 | 47 => 141 | 48 => 142 | 49 => 143 | 50 => 144 | 57 => 151 | n => n, fun | 22 => 48 | 24 => 51 | 25 => 55 | 3 => 3 | 39 => 113 | 0 => 0 | 53 => 127 | 55 => 129 | 4 => 4 | 46 => 120 | 45 => 119 | 50 => 124 | 5 => 5 | 9 => 9 | 66 => 139 | 70 => 143 | 76 => 148 | 77 => 149 | n => n, fun | n => n⟩
theorem Tryz.sortArc : Go.Proofs.SlLaysF0.n6 Tryz.prog Tryz.sortArc_ren := {
  mixed := by kernel_rfl
  f6 := ⟨Tryz.f60.name, by decide, Tryz.func60.trans (congrArg some (by kernel_rfl))⟩
  f14 := ⟨Tryz.f96.name, by decide, Tryz.func96.trans (congrArg some (by kernel_rfl))⟩
  f15 := Tryz.func97.trans (congrArg some (by kernel_rfl))
  f20 := ⟨Tryz.f116.name, by decide, Tryz.func116.trans (congrArg some (by kernel_rfl))⟩
  f21 := ⟨Tryz.f117.name, by decide, Tryz.func117.trans (congrArg some (by kernel_rfl))⟩
  f22 := ⟨Tryz.f118.name, by decide, Tryz.func118.trans (congrArg some (by kernel_rfl))⟩
  f23 := ⟨Tryz.f119.name, by decide, Tryz.func119.trans (congrArg some (by kernel_rfl))⟩
  f24 := ⟨Tryz.f120.name, by decide, Tryz.func120.trans (congrArg some (by kernel_rfl))⟩
  f25 := ⟨Tryz.f121.name, by decide, Tryz.func121.trans (congrArg some (by kernel_rfl))⟩
  f26 := ⟨Tryz.f122.name, by decide, Tryz.func122.trans (congrArg some (by kernel_rfl))⟩
  f27 := ⟨Tryz.f123.name, by decide, Tryz.func123.trans (congrArg some (by kernel_rfl))⟩
  f28 := Tryz.func124.trans (congrArg some (by kernel_rfl))
  f29 := Tryz.func125.trans (congrArg some (by kernel_rfl))
  f46 := ⟨Tryz.f140.name, by decide, Tryz.func140.trans (congrArg some (by kernel_rfl))⟩
  f47 := Tryz.func141.trans (congrArg some (by kernel_rfl))
  f48 := Tryz.func142.trans (congrArg some (by kernel_rfl))
  f49 := ⟨Tryz.f143.name, by decide, Tryz.func143.trans (congrArg some (by kernel_rfl))⟩
  f50 := ⟨Tryz.f144.name, by decide, Tryz.func144.trans (congrArg some (by kernel_rfl))⟩
  f57 := ⟨Tryz.f151.name, by decide, Tryz.func151.trans (congrArg some (by kernel_rfl))⟩
  t0 := Tryz.underlying0
  a0 := Tryz.isAgg0
  z0 := Tryz.sizeOf0
  v0 := Tryz.zeroValue0
  t3 := Tryz.underlying3
  a3 := Tryz.isAgg3
  z3 := Tryz.sizeOf3
  v3 := Tryz.zeroValue3
  t4 := Tryz.underlying4
  a4 := Tryz.isAgg4
  z4 := Tryz.sizeOf4
  v4 := Tryz.zeroValue4
  t5 := Tryz.underlying5
  a5 := Tryz.isAgg5
  z5 := Tryz.sizeOf5
  v5 := Tryz.zeroValue5
  t9 := Tryz.underlying9
  a9 := Tryz.isAgg9
  z9 := Tryz.sizeOf9
  v9 := Tryz.zeroValue9
  t22 := Tryz.underlying48
  a22 := Tryz.isAgg48
  z22 := Tryz.sizeOf48
  v22 := Tryz.zeroValue48
  t25 := Tryz.underlying55
  a25 := Tryz.isAgg55
  z25 := Tryz.sizeOf55
  v25 := Tryz.zeroValue55
  t39 := Tryz.underlying113
  a39 := Tryz.isAgg113
  z39 := Tryz.sizeOf113
  v39 := Tryz.zeroValue113
  t45 := Tryz.underlying119
  a45 := Tryz.isAgg119
  z45 := Tryz.sizeOf119
  v45 := Tryz.zeroValue119
  t46 := Tryz.underlying120
  a46 := Tryz.isAgg120
  z46 := Tryz.sizeOf120
  v46 := Tryz.zeroValue120
  t50 := Tryz.underlying124
  a50 := Tryz.isAgg124
  z50 := Tryz.sizeOf124
  v50 := Tryz.zeroValue124
  t53 := Tryz.underlying127
  a53 := Tryz.isAgg127
  z53 := Tryz.sizeOf127
  v53 := Tryz.zeroValue127
  t55 := Tryz.underlying129
  a55 := Tryz.isAgg129
  z55 := Tryz.sizeOf129
  v55 := Tryz.zeroValue129
  t66 := Tryz.underlying139
  a66 := Tryz.isAgg139
  z66 := Tryz.sizeOf139
  v66 := Tryz.zeroValue139
  t70 := Tryz.underlying143
  a70 := Tryz.isAgg143
  z70 := Tryz.sizeOf143
  v70 := Tryz.zeroValue143
  t76 := Tryz.underlying148
  a76 := Tryz.isAgg148
  z76 := Tryz.sizeOf148
  v76 := Tryz.zeroValue148
  t77 := Tryz.underlying149
  a77 := Tryz.isAgg149
  z77 := Tryz.sizeOf149
  v77 := Tryz.zeroValue149 }
end Go.Proofs

namespace Go.Proofs.YtlljnfljcdljaabGreat.V
set_option maxRecDepth 100000
open Go Go.RowKit Go.Maps Go.Shelf Go.Sort
theorem arcCollect (Bm m : Nat) (m2 : m ≤ 100) (S Sp : List (Nat × Nat) → Prop) (w : World) (hseq : SeqStopsK Fence.wide 3 Tryz.prog keysName #[.pointer (some ⟨Bm, 0, none⟩)] (fun x : Nat × Nat => #[arcV x.1 x.2]) KeepsWalks S Sp m w) :
    Calls Tryz.prog 59 #[.func (.func keysName) #[] #[.pointer (some ⟨Bm, 0, none⟩)]] w fun e w' => ∃ v ss, e = .returned v ∧ S ss ∧ w'.ownsRow w.heap.size 51 2 v ss.length (arcCellsL ss) ∧ Below w.heap.size w w' := by
  have HQ := Lib.hid (arcAppendSeq Bm m m2 S Sp w hseq)
  go_enter Tryz.func59, Tryz.ntmps59
  go_wp2_with (go_at_call 95; refine HQ.out.mono ?_; rintro e w' ⟨v, ss, rfl, hS, hrow, hb⟩)
  go_ret
  exact ⟨v, ss, rfl, hS, hrow, hb⟩
theorem mapsKeysA (bo : Option Nat) (w : World) :
    Calls Tryz.prog 31 #[.map bo] w fun e w' => e = .returned (.func (.func keysName) #[] #[.pointer (some ⟨w.heap.size, 0, none⟩)]) ∧ w' = w.alloc (.cells #[.map bo] 45) := by
  go_enter Tryz.func31, Tryz.ntmps31
  go_wp2
  go_ret
  exact ⟨rfl, rfl⟩
def encArc (x : Nat × Nat) : List Value := [.int .i64 (x.1 : Int), .int .i64 (x.2 : Int)]
theorem cmpLaysArc (blk off size : Nat) (w : World) : CmpLays Tryz.prog 32 #[] encArc 2 M.cN blk off size w :=
  fun _ _ _ _ x y => arcCompare ((x.1 : Int), (x.2 : Int)) ((y.1 : Int), (y.2 : Int)) _
theorem swoArc : SWO (ltOf M.cN) where
  irrefl := fun x => (M.ltN_false x x).2 (by omega)
  trans := fun x y z h1 h2 => (M.ltN_iff x z).2 (by have := (M.ltN_iff x y).1 h1; have := (M.ltN_iff y z).1 h2; omega)
  ntrans := fun x y z h1 h2 => (M.ltN_false x z).2 (by have := (M.ltN_false x y).1 h1; have := (M.ltN_false y z).1 h2; omega)
theorem arcCellsL_len (l : List (Nat × Nat)) : (arcCellsL l).length = l.length * 2 := by
  induction l with
  | nil => rfl
  | cons p l ih => show (Value.int .i64 p.1 :: Value.int .i64 p.2 :: arcCellsL l).length = _; simp [ih]; omega
theorem arcCellsL_at (l : List (Nat × Nat)) : ∀ j, j < l.length * 2 → (arcCellsL l)[j]? = some ((encArc l.toArray[j / 2]!)[j % 2]!) := by
  induction l with
  | nil => intro j hj; exact absurd hj (by simp)
  | cons p l ih =>
    intro j hj
    have e : arcCellsL (p :: l) = .int .i64 p.1 :: .int .i64 p.2 :: arcCellsL l := rfl
    rw [e]
    match j with
    | 0 => rfl
    | 1 => rfl
    | j + 2 =>
      have h := ih j (by simp at hj; omega)
      simp only [List.getElem?_cons_succ]
      rw [h, show (j + 2) / 2 = j / 2 + 1 by omega, show (j + 2) % 2 = j % 2 by omega]
      simp
theorem holdsArc {w : World} {g : Nat} {cur : Array Value} {e : TypeId} {ss : List (Nat × Nat)} (hb : w.heap[g]? = some (.cells cur e (0, 0))) (ht : cur.toList.take (ss.length * 2) = arcCellsL ss) : HoldsK encArc 2 w g 0 ss.toArray := by
  intro j hj
  have hj' : j < ss.length * 2 := by simpa using hj
  refine ⟨?_, by simp [World.frozen?, hb]⟩
  have h1 : (cur.toList.take (ss.length * 2))[j]? = (arcCellsL ss)[j]? := by rw [ht]
  rw [List.getElem?_take_of_lt hj', arcCellsL_at ss j hj'] at h1
  simp only [World.cell?, hb, Nat.zero_add]
  simp only [Option.isSome_none, Bool.false_eq_true, if_false]
  rw [← Array.getElem?_toList, h1, get_flatK encArc 2 ss.toArray j (by simpa using hj')]
  rfl
theorem grownBy_sortedK {w : World} {g n : Nat} {os : Array Obj} (d : Array (Nat × Nat)) : w.grownBy (sortWorldK encArc 2 w g 0 n d os) (some g) := by
  refine ⟨rfl, rfl, rfl, by simp [sortWorldK, putRowK, putRow, mapBlock, Sort.ahead, Sort.grow], fun k hk hne => ?_⟩
  unfold sortWorldK
  rw [heap_grow_old _ _ (by simpa [putRowK, putRow, mapBlock, Sort.ahead] using hk)]
  have : g ≠ k := fun e => hne (by rw [e])
  simp [putRowK, putRow, mapBlock, Sort.ahead, Array.getElem?_modify, this]
def srtA (ss : List (Nat × Nat)) : List (Nat × Nat) := ss.mergeSort fun x y => !M.ltN y x
set_option maxRecDepth 100000 in
set_option maxHeartbeats 1000000 in
theorem sortArcs (B : Nat) (v : Value) (ss : List (Nat × Nat)) (w : World) (h : w.ownsRow B 51 2 v ss.length (arcCellsL ss)) (hl : ss.length ≤ 1000) :
    Calls Tryz.prog 60 #[v, .func (.func 32) #[] #[]] w fun e w' => e = .returned (.tuple #[]) ∧ Below B w w' ∧ ∃ bb c, v = .slice bb ss.length c ∧ (0 < ss.length → ∃ g, bb = some ⟨g, 0, none⟩ ∧ B ≤ g ∧ g < w'.heap.size ∧ HoldsK encArc 2 w' g 0 (srtA ss).toArray) := by
  rcases h.2 with ⟨rfl, hn⟩ | ⟨g, cap, cur, rfl, hbase, hb, h1, h2, h3, h4⟩
  · refine (AnyF.slices_SortFunc_none { Tryz.sortArc with } none 0 _ w).mono ?_
    rintro e w' ⟨rfl, rfl⟩
    exact ⟨rfl, Below.refl _ _, none, 0, by rw [hn], fun h => by omega⟩
  · have hlt := (Array.getElem?_eq_some_iff.1 hb).1
    have hH := holdsArc hb h4
    have hs : (ss.toArray).size = ss.length := by simp
    have hcon := AnyQ.slices_SortFunc_total Tryz.sortArc 2 Tryz.isAgg51 Tryz.sizeOf51 encArc (fun _ => rfl) (fun x v hv => by simp [encArc] at hv; rcases hv with rfl | rfl <;> rfl) M.cN swoArc 32 #[] g 0 cap ss.toArray w
      (enters_of Tryz.func32 (by kernel_rfl) rfl) (cmpLaysArc g 0 _ w) hH hlt (by rw [hs]; omega) (fun x y h1 h2 => M.ltN_total x y h1 h2)
    rw [hs] at hcon
    refine hcon.mono ?_
    rintro e w' ⟨rfl, n, os, rfl⟩
    have hg := grownBy_sortedK (w := w) (g := g) (n := n) (os := os) (srtA ss).toArray
    refine ⟨rfl, (Below.refl B w).grown hg (by omega) (fun k e => by cases e; exact hbase), _, cap, rfl, fun _ => ⟨g, rfl, hbase, ?_, ?_⟩⟩
    · exact Nat.lt_of_lt_of_le hlt hg.size
    · exact holdsK_sortWorldK encArc 2 w g 0 n ss.toArray (srtA ss).toArray os hlt hH (by simp [srtA])
set_option maxRecDepth 100000 in
set_option maxHeartbeats 1000000 in
theorem sortedArcs (Bm m : Nat) (m2 : m ≤ 100) (S Sp : List (Nat × Nat) → Prop) (hS : ∀ ss, S ss → ss.length ≤ 1000) (w : World) (hseq : SeqStopsK Fence.wide 3 Tryz.prog keysName #[.pointer (some ⟨Bm, 0, none⟩)] (fun x : Nat × Nat => #[arcV x.1 x.2]) KeepsWalks S Sp m w) :
    Calls Tryz.prog 30 #[.func (.func keysName) #[] #[.pointer (some ⟨Bm, 0, none⟩)], .func (.func 32) #[] #[]] w fun e w' => ∃ bb c ss, e = .returned (.slice bb ss.length c) ∧ S ss ∧ Below w.heap.size w w' ∧ (0 < ss.length → ∃ g, bb = some ⟨g, 0, none⟩ ∧ w.heap.size ≤ g ∧ g < w'.heap.size ∧ HoldsK encArc 2 w' g 0 (srtA ss).toArray) := by
  have HQ := Lib.hid (arcCollect Bm m m2 S Sp w hseq)
  clear hseq
  go_enter Tryz.func30, Tryz.ntmps30
  go_wp2_with (go_at_call 59; refine HQ.out.mono ?_; rintro e w' ⟨v, ss, rfl, hs, hrow, hb⟩; have HC := Lib.hid (sortArcs w.heap.size v ss w' hrow (hS ss hs)); have HB := Lib.hid hb; have HSs := Lib.hid hs; clear hrow hb hs)
  all_goals
    refine HC.out.mono ?_
    rintro e w2 ⟨rfl, hb2, bb, c, rfl, hg⟩
    have HG := Lib.hid hg
    have HB2 := Lib.hid (HB.out.trans hb2)
    clear hg hb2
    go_wp2
    go_ret
    exact ⟨bb, c, ss, rfl, HSs.out, HB2.out, HG.out⟩
end Go.Proofs.YtlljnfljcdljaabGreat.V

namespace Go.Proofs.YtlljnfljcdljaabGreat
namespace M
theorem arcs_take {L : List (List Int)} {t : Nat} {x : List Int} (h : L[t]? = some x) : L.take (t + 1) = L.take t ++ [x] := by
  rw [List.take_add_one, h]; rfl
theorem sumLen_const (L : List (List Int)) (k : Nat) (h : ∀ l, l ∈ L → l.length = k) : sumLen L = L.length * k := by
  induction L with
  | nil => simp [sumLen]
  | cons a L ih =>
    have e : sumLen (a :: L) = a.length + sumLen L := by simp [sumLen]
    rw [e, ih (fun l hl => h l (by simp [hl])), h a (by simp), List.length_cons, Nat.succ_mul]; omega
theorem arcsRes_ok (R : List (List Int)) : pre (arcsRes R).1 (arcsRes R).1.length ≤ 200 ∧ (arcsRes R).1.length ≤ 100 := by
  unfold arcsRes
  by_cases h : crCode R = 0
  · rw [if_pos h]
    obtain ⟨n1, n2, -⟩ := sq_sm (cr_code h).1
    have h1 := arcsP_len R R.length
    have h2 := Nat.mul_le_mul n2 n2
    have h3 : (arcsL R).length ≤ 100 := by unfold arcsL; omega
    refine ⟨?_, h3⟩
    show pre (arcsL R) (arcsL R).length ≤ 200
    rw [pre_sum, sumLen_const _ 2 (fun l hl => by
      rw [← arcsN_map, List.mem_map] at hl
      obtain ⟨x, -, rfl⟩ := hl
      rfl)]
    omega
  · rw [if_neg h]; exact ⟨by unfold pre; simp, by simp⟩
end M
namespace V
set_option maxRecDepth 100000
open Go Go.RowKit Go.Maps Go.Shelf Go.Sort
set_option maxRecDepth 100000 in
set_option maxHeartbeats 1000000 in
theorem sCriticalArcs (a : Option Addr) (n cap : Nat) (R : List (List Int)) (w : World) (h : Mat w a n R) :
    Calls Tryz.prog 6 #[.slice a n cap] w (MRes (M.arcsRes R) w) := by
  have HA := Lib.hid h
  by_cases hc : M.crCode R = 0
  · obtain ⟨h1, h2⟩ := M.cr_code hc
    have H1 := Lib.hid h1
    have H2 := Lib.hid h2
    have HK := Lib.hid hc
    have HE : Hid (M.arcsRes R = (M.arcsL R, 0)) := by show _ = _; unfold M.arcsRes; rw [if_pos hc]
    clear h hc h1 h2
    go_enter Tryz.func6, Tryz.ntmps6
    go_wp2_with fail
    refine (sCode _ _ _ R _ HA.out).mono ?_
    rintro e w1 ⟨rfl, hb⟩
    rw [HK.out]
    have HB := Lib.hid hb
    clear hb
    go_wp2_with fail
    refine (sArcs _ _ _ R _ (HA.out.below HB.out) H1.out H2.out).mono ?_
    rintro e w2 ⟨b2, c2, rfl, ho, hb⟩
    have HO := Lib.hid (ho.mono HB.out.size)
    have HB2 := Lib.hid (HB.out.trans (hb.mono HB.out.size))
    clear ho hb
    go_wp2
    go_ret2
    rw [HE.out]
    exact ⟨_, _, _, rfl, HO.out, HB2.out⟩
  · obtain ⟨k, hk⟩ : ∃ k, k = M.crCode R := ⟨_, rfl⟩
    have HE : Hid (M.arcsRes R = ([], k)) := by show _ = _; unfold M.arcsRes; rw [if_neg hc, hk]
    have HK := Lib.hid hk
    have hk0 : (k != 0) = true := by rw [hk]; simpa using hc
    clear h hc hk
    go_enter Tryz.func6, Tryz.ntmps6
    go_wp2_with fail
    refine (sCode _ _ _ R _ HA.out).mono ?_
    rintro e w1 ⟨rfl, hb⟩
    rw [← HK.out]
    have HB := Lib.hid hb
    clear hb
    go_wp2
    go_ret2
    exact MRes.nil HE.out HB.out
theorem holdsArc_at {w : World} {g : Nat} {ss : List (Nat × Nat)} (h : HoldsK encArc 2 w g 0 ss.toArray) {i : Nat} (hi : i < ss.length) :
    w.cell? ⟨g, i * 2, none⟩ = some (.int .i64 ((ss.getD i (0, 0)).1 : Int)) ∧ w.cell? ⟨g, i * 2 + 1, none⟩ = some (.int .i64 ((ss.getD i (0, 0)).2 : Int)) := by
  have hk := HoldsK.cells h (fun _ => rfl) (i := i) (by simpa using hi)
  have e : ss.toArray[i]! = ss.getD i (0, 0) := by simp [hi]
  rw [e] at hk
  have c1 := hk 0 _ rfl
  have c2 := hk 1 _ rfl
  have a1 : (⟨g, 0 + i * 2, none⟩ : Addr).add 0 = ⟨g, i * 2, none⟩ := by rw [Addr.add_lit]; congr 1; omega
  have a2 : (⟨g, 0 + i * 2, none⟩ : Addr).add 1 = ⟨g, i * 2 + 1, none⟩ := by rw [Addr.add_lit]; congr 1; omega
  rw [a1] at c1
  rw [a2] at c2
  exact ⟨c1, c2⟩
theorem holdsArc_below {w w' : World} {B g : Nat} {d : Array (Nat × Nat)} (h : HoldsK encArc 2 w g 0 d) (hb : Below B w w') (hg : g < B) : HoldsK encArc 2 w' g 0 d := fun j hj => by
  obtain ⟨h1, h2⟩ := h j hj
  exact ⟨(hb.cell (p := ⟨g, 0 + j, none⟩) hg).trans h1, (hb.frozen (p := ⟨g, 0 + j, none⟩) hg).trans h2⟩
theorem appendRowLitZ (w0 : World) {ops : Array Oper} {rest : List Oper} {o : Oper} {a : Act} {Q : Exit → Act → World → Prop} (hgd : o.guard = none) (s x : Operand)
    (ho : o.op = .call { callee := .builtin .append, args := #[s, x], argTypes := #[22, 22] }) (z B : Nat) (hz : z = w0.heap.size) (v : Value) (L : List (List Int)) (p q : Int) (n : Nat) (hn : L.length = n) (hs : a.eval s = v) (hown : OwnM w0 B v L)
    (hx : a.eval x = .slice (some ⟨z + 1, 0, none⟩) 1 1) (hlen : L.length ≤ 2000000) (hB : B ≤ w0.heap.size)
    (h : ∀ b' c' w', OwnM w' B (.slice b' (n + 1) c') (L ++ [[p, q]]) → Below B w0 w' → wpList Tryz.prog ops Q rest (a.put o.dst (.slice b' (n + 1) c')) w') :
    wpList Tryz.prog ops Q (o :: rest) a ((w0.alloc (.cells #[.int .i64 p, .int .i64 q] 2)).alloc (.cells #[.slice (some ⟨z, 0, none⟩) 2 2] 32)) := by
  subst hz
  exact appendRowLit w0 hgd s x ho B v L p q n hn hs hown hx hlen hB h
set_option maxRecDepth 100000 in
set_option maxHeartbeats 4000000 in
theorem criticalArcsX (a : Option Addr) (n cap : Nat) (R : List (List Int)) (w : World) (h : Mat w a n R) :
    Calls Tryz.prog 8 #[.slice a n cap] w (MRes (M.arcsRes R) w) := by
  have HA := Lib.hid h
  by_cases hc : M.crCode R = 0
  · obtain ⟨h1, h2⟩ := M.cr_code hc
    have H1 := Lib.hid h1
    have H2 := Lib.hid h2
    have HE : Hid (M.arcsRes R = (M.arcsL R, 0)) := by show _ = _; unfold M.arcsRes; rw [if_pos hc]
    obtain ⟨-, n1, n2, -⟩ := sq_parts h h1
    have HRn := Lib.hid h.1
    clear h hc h1 h2
    go_enter Tryz.func8, Tryz.ntmps8
    go_wp2_with fail
    refine (criticalArcs _ _ _ R _ HA.out H1.out H2.out).mono ?_
    rintro e w1 ⟨b1, m1, rfl, -, hm1, hI, hb⟩
    have HI := Lib.hid hI
    have HB := Lib.hid hb
    clear hI hb
    go_wp2_with fail
    refine (mapsKeysA (some b1) _).mono ?_
    rintro e w' ⟨rfl, rfl⟩
    have hseq := arcKeys_stops w1.heap.size b1 n m1 (M.crB R) n2 3 (by omega) (w1.alloc (.cells #[.map (some b1)] 45)) (by simp) (HI.out.below (b_alloc _ _) HI.out.lt)
    have HQ := Lib.hid hseq
    clear hseq
    go_wp2_with fail
    refine (sortedArcs w1.heap.size m1 hm1 _ _ (fun ss h => by have := h.2; omega) _ HQ.out).mono ?_
    rintro e w2 ⟨bb, c, ss, rfl, ⟨hS, hSl⟩, hb2, hg⟩
    clear HQ HI
    have HB2 : Hid (Below w.heap.size w w2) := HB.out.trans (((b_alloc w1 _).trans (hb2.mono (by simp))).mono HB.out.size)
    have hL : (srtA ss).map M.arcRowOf = M.arcsL R := by
      rw [← M.arcsN_map]
      congr 1
      exact M.sort_arcs hS.1 (by rw [HRn.out]; exact hS.2)
    have hln : (srtA ss).length = ss.length := by simp [srtA]
    obtain ⟨len, hlen⟩ : ∃ len, len = ss.length := ⟨_, rfl⟩
    rw [← hlen] at hg hln hSl ⊢
    have HL := Lib.hid hL
    have HG := Lib.hid hg
    have HLn := Lib.hid hln
    clear hS hb2 hg hL hlen hln HB
    go_wp2
    go_loopw [6, 8, 18] (fun sv _ iv wr => ∃ (t : Nat) (b : Option Addr) (c' : Nat), t ≤ len ∧ sv = .slice b t c' ∧ iv = .int .i64 t ∧ Hid (OwnM wr w2.heap.size (.slice b t c') ((M.arcsL R).take t)) ∧ Hid (Below w2.heap.size w2 wr) ∧ w2.heap.size ≤ wr.heap.size) (fun _ _ iv _ => len - (intOf iv).toNat)
    case atStart => exact ⟨0, none, 0, Nat.zero_le _, rfl, rfl, ownM_nil _ _, Below.refl _ _, Nat.le_refl _⟩
    case round =>
      obtain ⟨t, b, c', ht, rfl, rfl, HO, HBw, hsz⟩ := hrel
      by_cases htl : t < len
      · obtain ⟨g, rfl, -, hg2, hH⟩ := HG.out (by omega)
        obtain ⟨c1, c2⟩ := holdsArc_at (holdsArc_below hH HBw.out hg2) (i := t) (by rw [HLn.out]; exact htl)
        have hx : (M.arcsL R)[t]? = some (M.arcRowOf ((srtA ss).getD t (0, 0))) := by
          rw [← HL.out, List.getElem?_map]
          have : (srtA ss)[t]? = some ((srtA ss).getD t (0, 0)) := by
            rw [List.getD_eq_getElem?_getD, List.getElem?_eq_getElem (by rw [HLn.out]; exact htl)]; rfl
          rw [this]; rfl
        generalize (srtA ss).getD t (0, 0) = q at c1 c2 hx
        obtain ⟨q1, q2⟩ := q
        have hlt : ((M.arcsL R).take t).length = t := by
          rw [List.length_take, ← HL.out, List.length_map, HLn.out]; omega
        have HX : Hid ((M.arcsL R).take (t + 1) = (M.arcsL R).take t ++ [[(q1 : Int), (q2 : Int)]]) := M.arcs_take hx
        have HLt := Lib.hid hlt
        have HOb : Hid (OwnM (wr.alloc (.cells #[.int .i64 (q1 : Int), .int .i64 (q2 : Int)] 51)) w2.heap.size (.slice b t c') ((M.arcsL R).take t)) := HO.out.below (b_alloc _ _)
        clear hx hH hlt
        go_wp2_with (at_builtin; refine appendRowLitZ (wr.alloc (.cells #[.int .i64 (q1 : Int), .int .i64 (q2 : Int)] 51)) rfl (.tmp 22) (.tmp 28) rfl (wr.heap.size + 1) w2.heap.size (by simp) _ ((M.arcsL R).take t) (q1 : Int) (q2 : Int) t HLt.out rfl HOb.out rfl (by rw [HLt.out]; omega) (by simp; omega) ?_)
        intro b4 c4 w4 hO4 hb4
        have HO4 : Hid (OwnM w4 w2.heap.size (.slice b4 (t + 1) c4) ((M.arcsL R).take (t + 1))) := by show OwnM _ _ _ _; rw [HX.out]; exact hO4
        have HB4 : Hid (Below w2.heap.size w2 w4) := HBw.out.trans (((b_alloc wr (.cells #[.int .i64 (q1 : Int), .int .i64 (q2 : Int)] 51)).mono hsz).trans hb4)
        have hsz4 : w2.heap.size ≤ w4.heap.size := HB4.out.size
        clear hO4 hb4
        go_wp2
        go_roundw
        case rel => exact ⟨t + 1, b4, c4, by omega, rfl, by go_num, HO4, HB4, hsz4⟩
        case measure => simp [intOf]; omega
      · obtain rfl : t = len := by omega
        have he : (M.arcsL R).take t = M.arcsL R := by
          refine List.take_of_length_le ?_
          rw [← HL.out, List.length_map, HLn.out]; exact Nat.le_refl _
        have HO2 := HO.out.mono HB2.out.size
        rw [he] at HO2
        have HOe := Lib.hid HO2
        have HBe : Hid (Below w.heap.size w wr) := HB2.out.trans (HBw.out.mono HB2.out.size)
        clear HO2 he
        go_wp2
        go_ret2
        rw [HE.out]
        exact ⟨_, _, _, rfl, HOe.out, HBe.out⟩
  · have HC := Lib.hid hc
    obtain ⟨k, hk⟩ : ∃ k, k = M.crCode R := ⟨_, rfl⟩
    have HE : Hid (M.arcsRes R = ([], k)) := by show _ = _; unfold M.arcsRes; rw [if_neg hc, hk]
    have HK := Lib.hid hk
    clear h hc hk
    go_enter Tryz.func8, Tryz.ntmps8
    go_wp2_with fail
    refine (criticalArcs_no _ _ _ R _ HA.out HC.out).mono ?_
    rintro e w1 ⟨rfl, hb⟩
    rw [← HK.out]
    have HB := Lib.hid hb
    clear hb
    go_wp2_with fail
    refine (mapsKeysA none _).mono ?_
    rintro e w' ⟨rfl, rfl⟩
    have HQ := Lib.hid (arcKeys_stops_nil w1.heap.size 3 (w1.alloc (.cells #[.map none] 45)) (by simp))
    go_wp2_with fail
    refine (sortedArcs w1.heap.size 0 (by omega) _ _ (fun ss h => by rw [h]; simp) _ HQ.out).mono ?_
    rintro e w2 ⟨bb, c, ss, rfl, rfl, hb2, -⟩
    have HB2 : Hid (Below w.heap.size w w2) := HB.out.trans (((b_alloc w1 _).trans (hb2.mono (by simp))).mono HB.out.size)
    clear HQ hb2 HB
    go_wp2
    refine wp_loop_rounds 1 ?_
    rw [rounds_succ]
    go_wp2
    go_ret2
    exact MRes.nil HE.out HB2.out
end V
end Go.Proofs.YtlljnfljcdljaabGreat

namespace Go.Proofs.YtlljnfljcdljaabGreat.V
open Go.RowKit Go.ChangeShapes Go.WideShapes Go.Deep

theorem mat_open {H : Type} {enc : TypeId × Value → H} {P : Program} {w : World} {base : Nat} {held : Bool} {t e q : TypeId} {fuel : Nat} {cs : List Value} {x : DataW H × List MemPlace} (ht : P.underlying t = some (.slice e)) (he : P.underlying e = some (.slice q)) (hq : P.underlying q = some (.int .i64))
    (ce : P.cellsOf e = 1) (cq : P.cellsOf q = 1) (h : DataW.trod enc P w base (fun _ => true) held fuel t cs = some x) :
    ∃ a len cap R, cs = [.slice a len cap] ∧ Mat w a len R := by
  rcases open_int_rows ht he hq ce cq h with ⟨rfl, -⟩ | ⟨a, len, cap, A, L, C, Z, rfl, hb, hl, hm, -, hr⟩
  · exact ⟨none, 0, 0, [], rfl, rfl, Nat.zero_le _, .inl rfl⟩
  · refine ⟨some a, len, cap, (List.range len).map fun r => (Z r).take (L r), rfl, by simp, by omega, ?_⟩
    by_cases h0 : len = 0
    · exact .inl h0
    · have hsp : a.spot = none := by
        have := (hr 0 (by omega)).1
        simpa [Addr.add] using World.cell?_spot this
      obtain ⟨b, off, spot⟩ := a
      simp only at hsp
      subst hsp
      refine .inr ⟨b, off, rfl, ?_, fun i hi => ?_⟩
      · have := cell_lt (hr 0 (by omega)).1
        simpa [Addr.add] using this
      · obtain ⟨h1, h2, h3, h4, h5, h6, h7⟩ := hr i (by omega)
        have eR : ((List.range len).map fun r => (Z r).take (L r)).getD i [] = (Z i).take (L i) := by simp [hi]
        rw [eR]
        have eL : ((Z i).take (L i)).length = L i := by rw [List.length_take]; omega
        rw [eL]
        refine ⟨A i, C i, by rw [← Go.WideShapes.add_plain]; exact h1, eL, by omega, ?_⟩
        by_cases hL : L i = 0
        · exact .inl hL
        · cases hA : A i with
          | none => have := h6 hA; omega
          | some a' =>
            obtain ⟨-, hc⟩ := h7 a' hA
            obtain ⟨b', off', rfl, hc'⟩ := ints_at (k := .i64) (zs := Z i) (fun j hj => hc j (by omega)) (by omega)
            refine .inr ⟨b', off', rfl, cell_lt (hc' 0 (by omega)), fun j hj => ?_⟩
            rw [hc' j (by omega)]
            simp [List.getD_eq_getElem?_getD, hj]
end Go.Proofs.YtlljnfljcdljaabGreat.V
