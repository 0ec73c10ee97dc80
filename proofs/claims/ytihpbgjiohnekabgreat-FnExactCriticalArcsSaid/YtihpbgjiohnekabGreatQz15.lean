/- Texts laid together: Arc, Cpr, Cpt, Srt, Nds, Cpi, Repeat, IBot. -/
import Derived.Test.YtihpbgjiohnekabGreatQz6
import Derived.Test.YtihpbgjiohnekabGreatQz5
import Derived.Maps.RangeWalk
import Derived.DeepKeys4
import Derived.Test.YtihpbgjiohnekabGreatQz14
import Derived.Ground.SlgnProg
import Derived.Shelf.SlicesG.CompactI
import Derived.Shelf.SlicesG.Cells
import Derived.Ground.SlgmProg
import Derived.Shelf.SortM.Plain
import Derived.Shelf.SortM.SortNone
import Derived.Test.YtihpbgjiohnekabGreatProg
import Derived.Test.YtihpbgjiohnekabGreatQz10
import Derived.Sort.OwnSortedInts
import Derived.Laws.IdiomRangeMap
import Derived.Test.YtihpbgjiohnekabGreatQz11
import Derived.Test.YtihpbgjiohnekabGreatRows
import Derived.Test.YtihpbgjiohnekabGreatQz1
import Derived.Test.YtihpbgjiohnekabGreatQz3
import Derived.WalkKit
import Derived.ProofKit
import Derived.WalkSmall
import Derived.Deep.QuietTactic
import Derived.BigQuiet
import Derived.BigRegion
import Derived.Deep.Draws
import Derived.Lib.Hide
import Derived.OpenShut
import Derived.Deep.OwnRows
import Derived.Laws.CopyOwn
import Derived.Deep.RegionLaw
import Derived.IntWalk
import Derived.Maps.AppendAt
import Derived.StillTailTactics
import Derived.Deep.RegionHeld3
import Derived.Test.YtihpbgjiohnekabGreatQz4
set_option linter.unusedSimpArgs false
set_option linter.unusedVariables false
set_option linter.unusedSectionVars false
namespace Go.Proofs.YtihpbgjiohnekabGreat.V
set_option maxRecDepth 100000
open Go.RowKit Go.Maps
abbrev arcV (f t : Nat) : Value := .agg #[.int .i64 (f : Int), .int .i64 (t : Int)]
def akey (f t : Nat) : Lit := .string (keyBytes [.int .i64 (f : Int), .int .i64 (t : Int)])
theorem arcLaid : laidOutB Tryz.prog = true := by kernel_rfl
theorem arcRowLt : (104 : TypeId) < Tryz.prog.types.size := of_decide_eq_true (by kernel_rfl)
theorem arcWide : (match Tryz.prog.underlying 104 with | some (.array _ _) | some (.struct _) => true | _ => false) = true := by rw [Tryz.underlying104]
theorem keyA : Keyed Tryz.prog 104 := Keyed.of_law (deep_law_laid arcLaid (m := 2) (by omega) arcRowLt (by kernel_rfl) arcWide)
theorem arcKeyType : Tryz.prog.keyType 104 = true := by kernel_rfl
theorem arcCells : Tryz.prog.cellsOf 104 = 2 := by kernel_rfl
theorem arcCells1 : Tryz.prog.cellsOf 2 = 1 := by kernel_rfl
theorem typesPos : ∃ m, Tryz.prog.types.size = m + 1 := ⟨_, (Nat.succ_pred_eq_of_pos (Nat.lt_of_le_of_lt (Nat.zero_le _) arcRowLt)).symm⟩
theorem akeyAt (f t : Nat) (hf : f < 1000) (ht : t < 1000) : keyOf Tryz.prog 104 (arcV f t) = some (akey f t) := by
  obtain ⟨m, hm⟩ := typesPos
  have w1 : (Lit.int .i64 (f : Int)).wf = true := WalkArith.wf_i64 (by omega)
  have w2 : (Lit.int .i64 (t : Int)).wf = true := WalkArith.wf_i64 (by omega)
  unfold keyOf
  rw [Tryz.underlying104]
  have hfm : (arcV f t).formed Tryz.prog 104 = true := by simp [Value.formed, Tryz.underlying104, arcCells]
  simp only [arcKeyType, hfm, Bool.and_self, if_true]
  rw [hm]
  simp [Program.keyLits, Tryz.underlying104, Tryz.underlying2, arcCells, arcCells1, Value.cells, w1, w2, akey]
theorem akey_inj {f t f' t' : Nat} (h1 : f < 1000) (h2 : t < 1000) (h3 : f' < 1000) (h4 : t' < 1000) (h : akey f t = akey f' t') : f = f' ∧ t = t' := by
  have e := keyA.inj (akeyAt f t h1 h2) (by rw [h]; exact akeyAt f' t' h3 h4)
  injection e with e
  simp at e
  exact ⟨by omega, by omega⟩
theorem akeyKey (f t : Nat) : WideAt.IsKeyLit (akey f t) := trivial
/-- The datum holds the set S of pairs of nodes. -/
def IsArcD (D : DataW Unit) (n : Nat) (S : Nat → Nat → Bool) : Prop :=
  IsMap D ∧ (∀ f t, f < n → t < n → D.atKey (akey f t) (.lit (.bool false)) = .lit (.bool (S f t))) ∧ (∀ f t, f < n → t < n → Maps.has D (akey f t) = S f t) ∧ (∀ kl, Maps.has D kl = true → ∃ f t, f < n ∧ t < n ∧ kl = akey f t)
/-- Block b is a map of at most m arcs. -/
def IsArcs (w : World) (b n m : Nat) (S : Nat → Nat → Bool) : Prop :=
  ∃ D : DataW Unit, w.ownsMap Tryz.prog 104 (plainElem Tryz.prog 4) b m D ∧ IsArcD D n S
theorem IsArcs.lt {w : World} {b n m : Nat} {S : Nat → Nat → Bool} (h : IsArcs w b n m S) : b < w.heap.size := by
  obtain ⟨D, h, -⟩ := h
  exact h.lt
theorem IsArcs.block {w w' : World} {b n m : Nat} {S : Nat → Nat → Bool} (h : IsArcs w b n m S) (e : w'.heap[b]? = w.heap[b]?) : IsArcs w' b n m S := by
  obtain ⟨D, ⟨es, clock, hb, F, hs, hD⟩, h2⟩ := h
  exact ⟨D, ⟨es, clock, e.trans hb, F, hs, hD⟩, h2⟩
theorem IsArcs.below {w w' : World} {B b n m : Nat} {S : Nat → Nat → Bool} (h : IsArcs w b n m S) (hb : Below B w w') (hB : b < B) : IsArcs w' b n m S := h.block (hb.block b hB)
theorem IsArcs.mono {w : World} {b n m m' : Nat} {S : Nat → Nat → Bool} (h : IsArcs w b n m S) (hm : m ≤ m') : IsArcs w b n m' S := by
  obtain ⟨D, h1, h2⟩ := h
  exact ⟨D, h1.mono hm, h2⟩
theorem IsArcD.congr {D : DataW Unit} {n : Nat} {S S' : Nat → Nat → Bool} (h : IsArcD D n S) (e : ∀ f t, f < n → t < n → S f t = S' f t) : IsArcD D n S' := by
  obtain ⟨h1, h2, h3, h4⟩ := h
  exact ⟨h1, fun f t hf ht => by rw [h2 f t hf ht, e f t hf ht], fun f t hf ht => by rw [h3 f t hf ht, e f t hf ht], h4⟩
theorem IsArcs.congr {w : World} {b n m : Nat} {S S' : Nat → Nat → Bool} (h : IsArcs w b n m S) (e : ∀ f t, f < n → t < n → S f t = S' f t) : IsArcs w b n m S' := by
  obtain ⟨D, h1, h2⟩ := h
  exact ⟨D, h1, h2.congr e⟩
theorem isArcs_made (w : World) (n : Nat) : IsArcs (w.alloc (.map #[] 0)) w.heap.size n 0 (fun _ _ => false) :=
  ⟨.map [], World.ownsMap_made _ _ _ _, ⟨[], rfl⟩, fun _ _ _ _ => rfl, fun _ _ _ _ => rfl, fun kl h => by cases h⟩
theorem IsArcs.look {w : World} {b n m : Nat} {S : Nat → Nat → Bool} (h : IsArcs w b n m S) (hn : n ≤ 10) (f t : Nat) (hf : f < n) (ht : t < n) : (Instr.lookup 98 (.map (some b)) (arcV f t) false).run Tryz.prog w = .ok (.bool (S f t)) w := by
  obtain ⟨D, h1, -, h3, -⟩ := h
  obtain ⟨v, ps, hr, hv⟩ := h1.lookup keyA Tryz.underlying98 (zeroB w) (plainElem_bool Tryz.underlying4 false) (akeyAt f t (by omega) (by omega))
  rw [h3 f t hf ht] at hv
  obtain ⟨x, rfl, hz⟩ := plainElem_bool_inv hv
  simp only [Prod.mk.injEq, DataW.lit.injEq, Lit.bool.injEq] at hz
  rw [hr, hz.1]
theorem IsArcD.put {D : DataW Unit} {n : Nat} {S : Nat → Nat → Bool} (h : IsArcD D n S) (hn : n ≤ 10) {f t : Nat} (hf : f < n) (ht : t < n) : IsArcD (D.put (akey f t) (.lit (.bool true))) n (M.upd2 S f t) := by
  obtain ⟨h1, h2, h3, h4⟩ := h
  have hne : ∀ f' t', f' < n → t' < n → ¬ (f' = f ∧ t' = t) → akey f' t' ≠ akey f t := fun f' t' a b c e => c (akey_inj (by omega) (by omega) (by omega) (by omega) e)
  have hu : ∀ f' t', ¬ (f' = f ∧ t' = t) → M.upd2 S f t f' t' = S f' t' := fun f' t' c => by
    unfold M.upd2
    by_cases a : f' = f
    · by_cases b : t' = t
      · exact absurd ⟨a, b⟩ c
      · simp [b]
    · simp [a]
  refine ⟨h1.put _ _, fun f' t' a b => ?_, fun f' t' a b => ?_, fun kl hk => ?_⟩
  · by_cases c : f' = f ∧ t' = t
    · obtain ⟨rfl, rfl⟩ := c
      rw [atKey_put_same h1 (akeyKey _ _)]
      unfold M.upd2; simp
    · rw [atKey_put_other (hne f' t' a b c), h2 f' t' a b, hu f' t' c]
  · by_cases c : f' = f ∧ t' = t
    · obtain ⟨rfl, rfl⟩ := c
      rw [has_put_same h1 (akeyKey _ _)]
      unfold M.upd2; simp
    · rw [has_put_other (hne f' t' a b c), h3 f' t' a b, hu f' t' c]
  · by_cases c : kl = akey f t
    · exact ⟨f, t, hf, ht, c⟩
    · rw [has_put_other c] at hk
      exact h4 kl hk
theorem wpList_putA (w : World) {ops : Array Oper} {rest : List Oper} {o : Oper} {a : Act} {Q : Exit → Act → World → Prop}
    (hg : o.guard = none) (m x v : Operand) (hop : o.op = Op.mapUpdate 98 m x v) (b n M0 : Nat) (S : Nat → Nat → Bool) (f t : Nat)
    (hm : a.eval m = .map (some b)) (hown : IsArcs w b n M0 S) (hn : n ≤ 10) (hM : M0 < 1000) (hf : f < n) (ht : t < n) (hx : a.eval x = arcV f t) (hv : a.eval v = .bool true)
    (hK : ∀ w', IsArcs w' b n (M0 + 1) (M.upd2 S f t) → w.grownBy w' (some b) → wpList Tryz.prog ops Q rest (a.put o.dst undef) w') :
    wpList Tryz.prog ops Q (o :: rest) a w := by
  obtain ⟨D, h1, h2⟩ := hown
  exact wpList_mapUpdate_own w hg m x v 98 hop 104 4 keyA Tryz.underlying98 _ b M0 D hm h1 (by unfold maxLen; omega) _ _ _ hx hv (akeyAt f t (by omega) (by omega)) _ [] (plainElem_bool Tryz.underlying4 true) fun w' h' hg' => hK w' ⟨_, h', h2.put hn hf ht⟩ hg'
/-- A range over the arcs of block b, by the iterator r: L tells which of the arcs S are still to come. -/
def RngA (w : World) (b r n m : Nat) (S L : Nat → Nat → Bool) (cnt : Nat) : Prop :=
  ∃ (D : DataW Unit) (left : Lit → Bool), w.ranges Tryz.prog 104 (plainElem Tryz.prog 4) b r m D left cnt ∧ IsArcD D n S ∧ (∀ kl, left kl = true → Maps.has D kl = true) ∧ ∀ f t, f < n → t < n → left (akey f t) = L f t
theorem RngA.owns {w : World} {b r n m cnt : Nat} {S L : Nat → Nat → Bool} (h : RngA w b r n m S L cnt) : IsArcs w b n m S := by
  obtain ⟨D, left, h1, h2, -⟩ := h
  exact ⟨D, h1.owns, h2⟩
theorem RngA.lt {w : World} {b r n m cnt : Nat} {S L : Nat → Nat → Bool} (h : RngA w b r n m S L cnt) : r < w.heap.size := by
  obtain ⟨D, left, h1, -⟩ := h
  exact h1.lt
theorem RngA.left_eq {w : World} {b r n m cnt : Nat} {S L : Nat → Nat → Bool} (h : RngA w b r n m S L cnt) : w.rangeLeft b r = cnt := by
  obtain ⟨D, left, h1, -⟩ := h
  exact h1.left_eq
theorem RngA.blocks {w w' : World} {b r n m cnt : Nat} {S L : Nat → Nat → Bool} (h : RngA w b r n m S L cnt) (e1 : w'.heap[b]? = w.heap[b]?) (e2 : w'.heap[r]? = w.heap[r]?) : RngA w' b r n m S L cnt := by
  obtain ⟨D, left, ⟨es, clock, since, seen, c0, hb, F, hs, hD, hr, rest⟩, h2⟩ := h
  exact ⟨D, left, ⟨es, clock, since, seen, c0, e1.trans hb, F, hs, hD, e2.trans hr, rest⟩, h2⟩
theorem wpList_rangeA (w : World) {ops : Array Oper} {rest : List Oper} {o : Oper} {a : Act} {Q : Exit → Act → World → Prop}
    (hg : o.guard = none) (m : Operand) (hop : o.op = Op.range 98 m) (b n M0 : Nat) (S : Nat → Nat → Bool)
    (hm : a.eval m = .map (some b)) (hown : IsArcs w b n M0 S)
    (hK : ∀ w' cnt, RngA w' b w.heap.size n M0 S S cnt → cnt ≤ M0 → w.grownBy w' none → w'.heap.size = w.heap.size + 1 → wpList Tryz.prog ops Q rest (a.put o.dst (.pointer (some ⟨w.heap.size, 0, none⟩))) w') :
    wpList Tryz.prog ops Q (o :: rest) a w := by
  obtain ⟨D, h1, h2⟩ := hown
  have hsz : Maps.size D ≤ M0 := by
    obtain ⟨es, clock, -, -, hle, rfl⟩ := h1
    simp only [Maps.size, length_sorted, List.length_map]
    simpa using hle
  exact wpList_range_own w hg m 98 hop 104 4 keyA Tryz.underlying98 _ b M0 D hm h1 fun w' hr hgr hz => hK w' _ ⟨D, _, hr, h2, fun _ h => h, h2.2.2.1⟩ hsz hgr hz
def strike (L : Nat → Nat → Bool) (f t a b : Nat) : Bool := L a b && !(decide (a = f) && decide (b = t))
theorem wpList_nextA (w : World) {ops : Array Oper} {rest : List Oper} {o : Oper} {a : Act} {Q : Exit → Act → World → Prop}
    (hg : o.guard = none) (it : Operand) (hop : o.op = Op.next it false) (b r n M0 : Nat) (S L : Nat → Nat → Bool) (cnt : Nat) (hn : n ≤ 10)
    (hit : a.eval it = .pointer (some ⟨r, 0, none⟩)) (h : RngA w b r n M0 S L cnt)
    (hDone : (∀ f t, f < n → t < n → L f t = false) → wpList Tryz.prog ops Q rest (a.put o.dst (.tuple #[.bool false])) w)
    (hMore : ∀ (f t : Nat) (w' : World) (cnt' : Nat), f < n → t < n → L f t = true → S f t = true → RngA w' b r n M0 S (strike L f t) cnt' → cnt' < cnt → w.grownBy w' (some r) → w'.heap.size = w.heap.size →
      (Instr.entry (.pointer (some ⟨r, 0, none⟩))).run Tryz.prog w' = .ok (.tuple #[arcV f t, .bool true]) w' → wpList Tryz.prog ops Q rest (a.put o.dst (.tuple #[.bool true, arcV f t, .bool true])) w') :
    wpList Tryz.prog ops Q (o :: rest) a w := by
  obtain ⟨D, left, h1, h2, h3, h4⟩ := h
  refine wpList_plain hg fun K' hK' => ?_
  unfold Oper.wp
  rcases h1.next keyA o.type with ⟨h0, hl, hrun⟩ | ⟨key, v, kl, y, w', cnt', hkey, hlk, hv, hat, hrun, hrg, hlt, hgr, hsz, hen⟩
  · simp [execOp, hop, hit, hrun, Result.andThen]
    exact hK' _ _ (hDone fun f t hf ht => by rw [← h4 f t hf ht, hl])
  · obtain ⟨f, t, hf, ht, rfl⟩ := h2.2.2.2 kl (h3 kl hlk)
    obtain rfl := keyA.inj hkey (akeyAt f t (by omega) (by omega))
    obtain ⟨x, rfl, hz⟩ := plainElem_bool_inv hv
    have hS : S f t = true := by rw [← h2.2.2.1 f t hf ht]; exact h3 _ hlk
    have hx : x = true := by
      have e := hat (.lit (.bool false))
      rw [h2.2.1 f t hf ht, hS, hz] at e
      injection e with e
      injection e with e
      exact e.symm
    subst hx
    simp [execOp, hop, hit, hrun, Result.andThen]
    refine hK' _ _ (hMore f t w' cnt' hf ht (by rw [← h4 f t hf ht]; exact hlk) hS ⟨D, _, hrg, h2, fun kl hk => h3 kl (by simp at hk; exact hk.1), fun f' t' a b => ?_⟩ hlt hgr hsz hen)
    show (left (akey f' t') && !(akey f' t').sameKey (akey f t)) = strike L f t f' t'
    unfold strike
    rw [h4 f' t' a b]
    congr 1
    by_cases c : f' = f ∧ t' = t
    · obtain ⟨rfl, rfl⟩ := c
      rw [WideAt.sameKey_self (akeyKey _ _)]; simp
    · have hne : akey f' t' ≠ akey f t := fun e => c (akey_inj (by omega) (by omega) (by omega) (by omega) e)
      rw [sameKey_ne hne]
      by_cases p : f' = f
      · by_cases q : t' = t
        · exact absurd ⟨p, q⟩ c
        · simp [q]
      · simp [p]
end Go.Proofs.YtihpbgjiohnekabGreat.V

namespace Go.Proofs.YtihpbgjiohnekabGreat.V
set_option maxRecDepth 100000
open Go.RowKit Go.Maps
set_option maxRecDepth 100000 in
set_option maxHeartbeats 4000000 in
theorem criticalArcs (a : Option Addr) (n cap : Nat) (R : List (List Int)) (w : World) (h : Mat w a n R) (hs : M.sqB R = true) (hc : M.hasCyc (M.ent R) R.length = true) :
    Calls Tryz.prog 104 #[.slice a n cap] w fun e w' => ∃ b m, e = .returned (.tuple #[.map (some b), .int .i64 0]) ∧ w.heap.size ≤ b ∧ m ≤ 100 ∧ IsArcs w' b n m (M.crB R) ∧ Below w.heap.size w w' := by
  have HA := Lib.hid h
  have hRn : R.length = n := h.1
  have HRn := Lib.hid hRn
  have HS := Lib.hid hs
  obtain ⟨hr, n1, n2, hsm⟩ := sq_parts h hs
  have HR := Lib.hid hr
  have HSm := Lib.hid hsm
  have HQ := Lib.hid (sq_of h hs)
  obtain ⟨hnear, hshm, hp⟩ := M.cr_t hs hc
  have HBc : Hid (∀ i j, i < n → j < n → (decide (M.bestF (M.crS R) n i j ≠ -1000000000000000)) = M.crB R j i) := fun i j _ _ => by
    have := M.best_crit R i j
    rw [hRn] at this
    exact this
  have hS : M.crS R = M.shf (M.ent R) (M.bestR (M.ent R) n).1 (M.bestR (M.ent R) n).2 := by
    funext i j; unfold M.crS; rw [hRn]
  rw [hRn] at hc hnear hp
  have HNo := Lib.hid hc
  obtain ⟨r, hrr⟩ : ∃ r, r = M.bestR (M.ent R) n := ⟨_, rfl⟩
  rw [← hrr] at hnear hS
  rw [hS] at hp
  have HSe := Lib.hid hS
  have HNear := Lib.hid hnear
  have HP := Lib.hid hp
  have HRr := Lib.hid hrr
  obtain ⟨r1, r2⟩ := r
  have hmm := @run_makeMap Tryz.prog
  clear h hs hr hsm hc hnear hp hrr hS hRn hshm
  go_enter Tryz.func104, Tryz.ntmps104
  go_wp2_with fail
  refine (isSquare_b _ _ _ R _ true HS.out HA.out).mono ?_
  rintro e w' ⟨rfl, rfl⟩
  go_wp2_with fail
  refine (hasCycle _ _ _ R _ HQ.out HSm.out).mono ?_
  rintro e w1 ⟨rfl, hb⟩
  rw [HNo.out]
  have HB1 := Lib.hid hb
  clear hb
  go_wp2_with fail
  obtain ⟨wm, hwm⟩ : ∃ x, x = w1.alloc (.map #[] 0) := ⟨_, rfl⟩
  have HI0 : Hid (IsArcs wm w1.heap.size n 0 (fun _ _ => false)) := by show IsArcs _ _ _ _ _; rw [hwm]; exact isArcs_made _ _
  have HBm : Hid (Below w.heap.size w wm) := by show Below _ _ _; rw [hwm]; exact HB1.out.alloc HB1.out.size _
  simp only [← hwm]
  clear hwm hmm
  refine (powerMean _ _ _ R _ (HQ.out.below HBm.out) HSm.out HNo.out).mono ?_
  rintro e w2 ⟨rfl, hb⟩
  rw [← HRr.out]
  have HI2 := Lib.hid (HI0.out.below hb HI0.out.lt)
  have HB2 := Lib.hid (HBm.out.trans (hb.mono HBm.out.size))
  clear hb
  go_wp2_with fail
  refine (bestArcs _ _ _ R r1 r2 _ (HA.out.below HB2.out) HR.out n1 n2 HSm.out HNear.out HP.out).mono ?_
  rintro e w3 ⟨b3, c3, rfl, ho, hb⟩
  rw [← HSe.out] at ho
  have HI3 := Lib.hid (HI2.out.below hb HI2.out.lt)
  have HB3 := Lib.hid (HB2.out.trans (hb.mono HB2.out.size))
  have hbs : w1.heap.size < w2.heap.size := HI2.out.lt
  have hb1 : w.heap.size ≤ w1.heap.size := HB1.out.size
  have hz3 : w2.heap.size ≤ w3.heap.size := hb.size
  obtain ⟨g, q0, L0, c0, x0, hgg, hgB, -⟩ := ho.at 0 0 (by omega) (by rw [(rect_mk n n _).2 0 (by omega)]; omega)
  subst hgg
  have HO3 := Lib.hid ho
  generalize w1.heap.size = bm at *
  clear ho hb HI0 HI2 HBm HB1
  go_wp2
  go_loopw [5, 6, 22] (fun _ _ i wr => ∃ s : Nat, s ≤ n ∧ i = .int .i64 s ∧ Hid (IsArcs wr bm n (s * n) (M.crP R s 0)) ∧ Hid (Below w.heap.size w wr) ∧ Hid (Same w2.heap.size w3.heap.size w3 wr) ∧ Hid (w3.heap.size ≤ wr.heap.size)) (fun _ _ i _ => n - (intOf i).toNat)
  case atStart => exact ⟨0, Nat.zero_le _, rfl, (HI3.out.congr fun f i _ _ => (M.crP_zero R f i).symm).mono (Nat.zero_le _), HB3, Same.refl _ _ _, Nat.le_refl _⟩
  case round =>
    obtain ⟨s, hs, rfl, HI, HB, HSa, HZ⟩ := hrel
    obtain ⟨wp, rfl⟩ : ∃ x, x = wr := ⟨_, rfl⟩
    clear HI3
    by_cases hsl : s < n
    · have hsi : (s : Int) < (n : Int) := by omega
      obtain ⟨g2, q, c, -, -, hgg, -, hrow, -⟩ := (HO3.out.keep HSa.out).tri (rect_mk _ _ _) s 0 0 hsl (by omega) (by omega)
      injection hgg with hgg
      injection hgg with hgg
      subst hgg
      have HRw0 := Lib.hid hrow
      go_wp2
      clear hrow
      go_loopw [7, 8, 29] (fun _ _ j wr => ∃ t : Nat, t ≤ n ∧ j = .int .i64 t ∧ Hid (IsArcs wr bm n (s * n + t) (M.crP R s t)) ∧ Hid (Below w.heap.size w wr) ∧ Hid (Same w2.heap.size w3.heap.size w3 wr) ∧ Hid (w3.heap.size ≤ wr.heap.size) ∧ Hid (wr.cell? ⟨g, s, none⟩ = some (.slice (some ⟨q, 0, none⟩) n c))) (fun _ _ j _ => n - (intOf j).toNat)
      case atStart => exact ⟨0, Nat.zero_le _, rfl, HI, HB, HSa, HZ, HRw0⟩
      case round =>
        clear HI HB HSa HZ HRw0
        obtain ⟨t, ht, rfl, HI, HB, HSa, HZ, HRw⟩ := hrel
        by_cases htl : t < n
        · have hti : (t : Int) < (n : Int) := by omega
          obtain ⟨g2, q2, c2, -, -, hgg, -, h1, h2, -⟩ := (HO3.out.keep HSa.out).tri (rect_mk _ _ _) s t t hsl htl htl
          injection hgg with hgg
          injection hgg with hgg
          subst hgg
          rw [HRw.out] at h1
          injection h1 with h1
          injection h1 with h1 _ h1c
          injection h1 with h1
          injection h1 with h1
          subst h1
          clear h1c
          rw [M.ent_mk _ _ _ _ _ hsl htl] at h2
          have hcr := HBc.out s t hsl htl
          obtain ⟨x, hx⟩ : ∃ x, x = M.bestF (M.crS R) n s t := ⟨_, rfl⟩
          rw [← hx] at h2 hcr
          clear hx
          by_cases hxb : x = -1000000000000000
          · have HN : Hid (IsArcs wr bm n (s * n + (t + 1)) (M.crP R s (t + 1))) := (HI.out.congr fun f i _ _ => M.crP_skip (by rw [← hcr, hxb]; simp) f i).mono (by omega)
            have hxn : (x != -1000000000000000) = false := by simp [hxb]
            clear hxb hcr
            go_wp2
            go_roundw
            case rel => exact ⟨t + 1, by omega, by go_num, HN, HB, HSa, HZ, HRw⟩
            case measure => simp [intOf]; omega
          · have hcb : M.crB R t s = true := by rw [← hcr]; simp [hxb]
            have HCb := Lib.hid hcb
            have hxn : (x != -1000000000000000) = true := by simp [hxb]
            have hM : s * n + t < 1000 := by have := Nat.mul_le_mul (show s ≤ 10 by omega) n2; omega
            clear hxb hcr hcb
            go_wp2_with (at_mapUpdate; refine wpList_putA _ rfl _ _ _ rfl bm n (s * n + t) _ t s rfl HI.out n2 hM htl hsl rfl rfl ?_; intro w1 hi1 hg1)
            have HN : Hid (IsArcs w1 bm n (s * n + (t + 1)) (M.crP R s (t + 1))) := hi1.congr fun f i _ _ => M.crP_put HCb.out f i
            have HBn : Hid (Below w.heap.size w w1) := HB.out.grown hg1 HB.out.size (fun j hj => by cases hj; exact hb1)
            have hb3 := HZ.out
            have HZn : Hid (w3.heap.size ≤ w1.heap.size) := Nat.le_trans HZ.out hg1.size
            have HSn : Hid (Same w2.heap.size w3.heap.size w3 w1) := fun k k1 k2 => (hg1.block k (by omega) (by intro e; injection e with e; omega)).trans (HSa.out k k1 k2)
            have HRn : Hid (w1.cell? ⟨g, s, none⟩ = some (.slice (some ⟨q, 0, none⟩) n c)) := (World.cell?_of_block (w := wr) (a := ⟨g, s, none⟩) (hg1.block g (cell_lt HRw.out) (by intro e; injection e with e; omega))).trans HRw.out
            clear hi1 hg1 hb3
            go_wp2
            go_roundw
            case rel => exact ⟨t + 1, by omega, by go_num, HN, HBn, HSn, HZn, HRn⟩
            case measure => simp [intOf]; omega
        · obtain rfl : t = n := by omega
          have HN : Hid (IsArcs wr bm t ((s + 1) * t) (M.crP R (s + 1) 0)) := (HI.out.congr fun f i hf _ => M.crP_row hf).mono (by rw [Nat.succ_mul]; omega)
          go_wp2
          go_roundw
          case rel => exact ⟨s + 1, by omega, by go_num, HN, HB, HSa, HZ⟩
          case measure => simp [intOf]; omega
    · obtain rfl : s = n := by omega
      go_wp2
      go_ret2
      exact ⟨bm, s * s, rfl, hb1, by have := Nat.mul_le_mul n2 n2; omega, HI.out.congr fun f i _ hi => M.crP_end hi, HB.out⟩
end Go.Proofs.YtihpbgjiohnekabGreat.V

namespace Go.Proofs.YtihpbgjiohnekabGreat
namespace M
def cutF (A : Nat → Nat → Int) (S : Nat → Nat → Bool) (i j : Nat) : Int := if S j i then A i j else -1000000000000000
end M
namespace V
set_option maxRecDepth 100000
open Go.RowKit Go.Maps
set_option maxRecDepth 100000 in
set_option maxHeartbeats 4000000 in
theorem criticalPart (a : Option Addr) (n cap : Nat) (R : List (List Int)) (bm m0 : Nat) (S : Nat → Nat → Bool) (w : World) (h : Mat w a n R) (hr : Rect R n n) (n1 : 1 ≤ n) (n2 : n ≤ 10) (hI : IsArcs w bm n m0 S) :
    Calls Tryz.prog 114 #[.slice a n cap, .map (some bm)] w (MPost n (M.mk n n (M.cutF (M.ent R) S)) w) := by
  have HA := Lib.hid h
  have HR := Lib.hid hr
  have HI := Lib.hid hI
  have HRe : Hid (M.mk n n (M.midG (M.cutF (M.ent R) S) (M.ent R) 0 0) = R) := by
    show _ = _
    rw [M.midG_zero]
    have e := M.mk_self R n (fun i hi => hr.2 i (by rw [← hr.1]; exact hi))
    rw [hr.1] at e
    exact e
  clear h hr hI
  go_enter Tryz.func114, Tryz.ntmps114
  go_wp2_with fail
  refine (copiedMatrix _ _ _ R n _ HA.out HR.out n1 n2 n1 n2).mono ?_
  rintro e w2 ⟨a2, cap2, rfl, hO, hb⟩
  rw [← HRe.out] at hO
  obtain ⟨g, -, -, -, -, rfl, -⟩ := hO.tri (rect_mk _ _ _) 0 0 0 (by omega) (by omega) (by omega)
  have HO0 := Lib.hid hO
  have HB0 := Lib.hid hb
  clear hO hb
  go_wp2
  go_loopw [6, 7, 13] (fun _ _ i wr => ∃ s : Nat, s ≤ n ∧ i = .int .i64 s ∧ Hid (OwnM wr w.heap.size (.slice (some ⟨g, 0, none⟩) n cap2) (M.mk n n (M.midG (M.cutF (M.ent R) S) (M.ent R) s 0))) ∧ Hid (Below w.heap.size w wr)) (fun _ _ i _ => n - (intOf i).toNat)
  case atStart => exact ⟨0, Nat.zero_le _, rfl, HO0, HB0⟩
  case round =>
    obtain ⟨s, hs, rfl, HOs, HBs⟩ := hrel
    obtain ⟨wp, rfl⟩ : ∃ x, x = wr := ⟨_, rfl⟩
    clear HO0 HB0
    by_cases hsl : s < n
    · have hsi : (s : Int) < (n : Int) := by omega
      obtain ⟨g2, q, c, -, -, hgg, -, hrow, -⟩ := HOs.out.tri (rect_mk _ _ _) s 0 0 hsl (by omega) (by omega)
      injection hgg with hgg
      injection hgg with hgg
      subst hgg
      have HRow := Lib.hid hrow
      go_wp2
      clear hrow
      go_loopw [8, 20] (fun _ j wr => ∃ t : Nat, t ≤ n ∧ j = .int .i64 t ∧ Hid (wr.cell? ⟨g, s, none⟩ = some (.slice (some ⟨q, 0, none⟩) n c)) ∧ Hid (OwnM wr w.heap.size (.slice (some ⟨g, 0, none⟩) n cap2) (M.mk n n (M.midG (M.cutF (M.ent R) S) (M.ent R) s t))) ∧ Hid (Below w.heap.size w wr)) (fun _ j _ => n - (intOf j).toNat)
      case atStart => exact ⟨0, Nat.zero_le _, rfl, HRow, HOs, HBs⟩
      case round =>
        clear HOs HBs HRow
        obtain ⟨t, ht, rfl, HRt, HOt, HBt⟩ := hrel
        by_cases htl : t < n
        · have hti : (t : Int) < (n : Int) := by omega
          obtain ⟨g2, q2, c2, q', c', hgg, hq, h1, h2, -, h4, -, h6, ho⟩ := HOt.out.tri (rect_mk _ _ _) s t t hsl htl htl
          injection hgg with hgg
          injection hgg with hgg
          subst hgg
          rw [HRt.out] at h1
          injection h1 with h1
          injection h1 with h1 _ h1c
          injection h1 with h1
          injection h1 with h1
          subst h1
          clear h1c
          rw [M.ent_mk _ _ _ _ _ hsl htl, M.midG_at] at h2
          have hne := row_ne h2 h4
          have HLk := (HI.out.below HBt.out HI.out.lt).look n2 t s htl hsl
          obtain ⟨x, hx⟩ : ∃ x, x = S t s := ⟨_, rfl⟩
          rw [← hx] at HLk
          cases x with
          | true =>
            have e : M.cutF (M.ent R) S s t = M.ent R s t := by unfold M.cutF; rw [← hx, if_pos rfl]
            have HO3 : Hid (OwnM wr w.heap.size (.slice (some ⟨g, 0, none⟩) n cap2) (M.mk n n (M.midG (M.cutF (M.ent R) S) (M.ent R) s (t + 1)))) := by
              show OwnM _ _ _ _; rw [← M.midG_same _ _ _ _ _ e]; exact HOt.out
            clear e ho hx h4 h6
            go_wp2
            go_roundw
            case rel => exact ⟨t + 1, by omega, by go_num, HRt, HO3, HBt⟩
            case measure => simp [intOf]; omega
          | false =>
            have e : M.cutF (M.ent R) S s t = -1000000000000000 := by unfold M.cutF; rw [← hx]; rfl
            have hN := ho (-1000000000000000)
            rw [← e, M.midG_next _ _ _ _ _ hsl, e] at hN
            have HN5 := Lib.hid hN
            have HRn : Hid ((wr.setCell ⟨q, t, none⟩ (.int .i64 (-1000000000000000))).cell? ⟨g, s, none⟩ = some (.slice (some ⟨q, 0, none⟩) n c)) :=
              (World.cell?_of_block (w := wr) (a := ⟨g, s, none⟩) (Below.heap_setCell wr ⟨q, t, none⟩ _ g (fun e => hne e.symm))).trans HRt.out
            have hcr := HRt.out
            clear e ho hN hx h4
            go_wp2
            go_roundw
            case rel => exact ⟨t + 1, by omega, by go_num, HRn, HN5, HBt.out.setCell hq _⟩
            case measure => simp [intOf]; omega
        · obtain rfl : t = n := by omega
          have HO5 : Hid (OwnM wr w.heap.size (.slice (some ⟨g, 0, none⟩) t cap2) (M.mk t t (M.midG (M.cutF (M.ent R) S) (M.ent R) (s + 1) 0))) := by
            show OwnM _ _ _ _; rw [← M.midG_row_end]; exact HOt.out
          go_wp2
          go_roundw
          case rel => exact ⟨s + 1, by omega, by go_num, HO5, HBt⟩
          case measure => simp [intOf]; omega
    · obtain rfl : s = n := by omega
      have HO5 : Hid (OwnM wp w.heap.size (.slice (some ⟨g, 0, none⟩) s cap2) (M.mk s s (M.cutF (M.ent R) S))) := by
        show OwnM _ _ _ _; rw [← M.midG_end]; exact HOs.out
      go_wp2
      go_ret
      exact ⟨_, _, rfl, HO5.out, HBs.out⟩
theorem criticalArcs_no (a : Option Addr) (n cap : Nat) (R : List (List Int)) (w : World) (h : Mat w a n R) (hc : M.crCode R ≠ 0) :
    Calls Tryz.prog 104 #[.slice a n cap] w fun e w' => e = .returned (.tuple #[.map none, .int .i64 (M.crCode R)]) ∧ Below w.heap.size w w' := by
  have HA := Lib.hid h
  have hRn : R.length = n := h.1
  by_cases hs : M.sqB R = true
  · have HS := Lib.hid hs
    have HQ := Lib.hid (sq_of h hs)
    have HSm := Lib.hid (sq_parts h hs).2.2.2
    have hcy : M.hasCyc (M.ent R) n = false := by
      cases e : M.hasCyc (M.ent R) n with
      | false => rfl
      | true => exact absurd (M.cr_code_of hs (by rw [hRn]; exact e)) hc
    have HNo := Lib.hid hcy
    have HE : Hid (M.crCode R = 4) := by show _ = _; unfold M.crCode; rw [if_pos hs, hRn, hcy]; rfl
    clear h hs hc hRn hcy
    go_enter Tryz.func104, Tryz.ntmps104
    go_wp2_with fail
    refine (isSquare_b _ _ _ R _ true HS.out HA.out).mono ?_
    rintro e w' ⟨rfl, rfl⟩
    go_wp2_with fail
    refine (hasCycle _ _ _ R _ HQ.out HSm.out).mono ?_
    rintro e w1 ⟨rfl, hb⟩
    rw [HNo.out]
    have HB1 := Lib.hid hb
    clear hb
    go_wp2
    go_ret2
    rw [HE.out]
    exact ⟨rfl, HB1.out⟩
  · simp only [Bool.not_eq_true] at hs
    have HS := Lib.hid hs
    have HE : Hid (M.crCode R = 1) := by show _ = _; unfold M.crCode; rw [if_neg (by rw [hs]; exact Bool.false_ne_true)]
    clear h hs hc hRn
    go_enter Tryz.func104, Tryz.ntmps104
    go_wp2_with fail
    refine (isSquare_b _ _ _ R _ false HS.out HA.out).mono ?_
    rintro e w' ⟨rfl, rfl⟩
    go_wp2
    go_ret2
    rw [HE.out]
    exact ⟨rfl, Below.refl _ _⟩
set_option maxRecDepth 100000 in
set_option maxHeartbeats 1000000 in
theorem criticalMatrix (a : Option Addr) (n cap : Nat) (R : List (List Int)) (w : World) (h : Mat w a n R) :
    Calls Tryz.prog 43 #[.slice a n cap] w (MRes (M.matRes R) w) := by
  have HA := Lib.hid h
  have hRn : R.length = n := h.1
  by_cases hc : M.crCode R = 0
  · obtain ⟨h1, h2⟩ := M.cr_code hc
    have H1 := Lib.hid h1
    have H2 := Lib.hid h2
    obtain ⟨hr, n1, n2, -⟩ := sq_parts h h1
    have HR := Lib.hid hr
    have HE : Hid (M.matRes R = (M.mk n n (M.cutF (M.ent R) (M.crB R)), 0)) := by show _ = _; unfold M.matRes M.crM; rw [if_pos hc, hRn]; rfl
    clear h hc h1 h2 hr hRn
    go_enter Tryz.func43, Tryz.ntmps43
    go_wp2_with fail
    refine (criticalArcs _ _ _ R _ HA.out H1.out H2.out).mono ?_
    rintro e w1 ⟨b1, m1, rfl, -, -, hI, hb⟩
    have HI := Lib.hid hI
    have HB := Lib.hid hb
    clear hI hb
    go_wp2_with fail
    refine (criticalPart _ _ _ R _ _ _ _ (HA.out.below HB.out) HR.out n1 n2 HI.out).mono ?_
    rintro e w2 ⟨b2, c2, rfl, ho, hb⟩
    have HO := Lib.hid (ho.mono HB.out.size)
    have HB2 := Lib.hid (HB.out.trans (hb.mono HB.out.size))
    clear ho hb
    go_wp2
    go_ret2
    rw [HE.out]
    exact ⟨_, _, _, rfl, HO.out, HB2.out⟩
  · have HC := Lib.hid hc
    obtain ⟨k, hk⟩ : ∃ k, k = M.crCode R := ⟨_, rfl⟩
    have HE : Hid (M.matRes R = ([], k)) := by show _ = _; unfold M.matRes; rw [if_neg hc, hk]
    have HK := Lib.hid hk
    have hk0 : (k != 0) = true := by rw [hk]; simpa using hc
    clear h hc hRn hk
    go_enter Tryz.func43, Tryz.ntmps43
    go_wp2_with fail
    refine (criticalArcs_no _ _ _ R _ HA.out HC.out).mono ?_
    rintro e w1 ⟨rfl, hb⟩
    rw [← HK.out]
    have HB := Lib.hid hb
    clear hb
    go_wp2
    go_ret2
    exact MRes.nil HE.out HB.out
end V
end Go.Proofs.YtihpbgjiohnekabGreat

namespace Go.Proofs
open Go.Shelf
def Tryz.laysSlN43_f175_ren : Go.Shelf.Ren := ⟨fun | 43 => 175 | n => n, fun | 22 => 29 | 23 => 2 | 3 => 3 | 4 => 4 | 0 => 0 | n => n, fun | n => n⟩
theorem Tryz.laysSlN43_f175 : Go.Proofs.SlLaysN.n43 Tryz.prog Tryz.laysSlN43_f175_ren := {
  mixed := by kernel_rfl
  f43 := ⟨Tryz.f175.name, by decide, Tryz.func175.trans (congrArg some (by kernel_rfl))⟩
  t0 := Tryz.underlying0
  a0 := Tryz.isAgg0
  z0 := Tryz.sizeOf0
  v0 := Tryz.zeroValue0
  t3 := Tryz.underlying3
  a3 := Tryz.isAgg3
  z3 := Tryz.sizeOf3
  v3 := Tryz.zeroValue3
  t4 := Tryz.underlying4
  a4 := Tryz.isAgg4
  z4 := Tryz.sizeOf4
  v4 := Tryz.zeroValue4
  t22 := Tryz.underlying29
  a22 := Tryz.isAgg29
  z22 := Tryz.sizeOf29
  v22 := Tryz.zeroValue29
  t23 := Tryz.underlying2
  a23 := Tryz.isAgg2
  z23 := Tryz.sizeOf2
  v23 := Tryz.zeroValue2
  i23 := by kernel_rfl }
def Tryz.laysSlM5_f174_ren : Go.Shelf.Ren := ⟨fun | 5 => 174 | 8 => 202 | 7 => 203 | 19 => 217 | 20 => 218 | 10 => 219 | 11 => 220 | 12 => 221 | 13 => 222 | 14 => 223 | 15 => 224 | 16 => 225 | 17 => 226 | 18 => 227 | 30 => 235 | 31 => 231 | 32 => 232 | 33 => 236 | 34 => 237 | 35 => 190 | 40 => 240 | n => n, fun | 23 => 29 | 25 => 2 | 3 => 3 | 32 => 125 | 22 => 29 | 0 => 0 | 44 => 190 | 46 => 67 | 4 => 4 | 36 => 183 | 35 => 182 | 41 => 187 | 5 => 5 | 9 => 9 | 53 => 200 | 57 => 204 | 63 => 209 | 64 => 210 | n => n, fun | n => n⟩
theorem Tryz.laysSlM5_f174 : Go.Proofs.SlLaysM.n5 Tryz.prog Tryz.laysSlM5_f174_ren := {
  mixed := by kernel_rfl
  f5 := ⟨Tryz.f174.name, by decide, Tryz.func174.trans (congrArg some (by kernel_rfl))⟩
  f7 := ⟨Tryz.f203.name, by decide, Tryz.func203.trans (congrArg some (by kernel_rfl))⟩
  f8 := Tryz.func202.trans (congrArg some (by kernel_rfl))
  f10 := ⟨Tryz.f219.name, by decide, Tryz.func219.trans (congrArg some (by kernel_rfl))⟩
  f11 := ⟨Tryz.f220.name, by decide, Tryz.func220.trans (congrArg some (by kernel_rfl))⟩
  f12 := ⟨Tryz.f221.name, by decide, Tryz.func221.trans (congrArg some (by kernel_rfl))⟩
  f13 := ⟨Tryz.f222.name, by decide, Tryz.func222.trans (congrArg some (by kernel_rfl))⟩
  f14 := ⟨Tryz.f223.name, by decide, Tryz.func223.trans (congrArg some (by kernel_rfl))⟩
  f15 := ⟨Tryz.f224.name, by decide, Tryz.func224.trans (congrArg some (by kernel_rfl))⟩
  f16 := ⟨Tryz.f225.name, by decide, Tryz.func225.trans (congrArg some (by kernel_rfl))⟩
  f17 := ⟨Tryz.f226.name, by decide, Tryz.func226.trans (congrArg some (by kernel_rfl))⟩
  f18 := ⟨Tryz.f227.name, by decide, Tryz.func227.trans (congrArg some (by kernel_rfl))⟩
  f19 := Tryz.func217.trans (congrArg some (by kernel_rfl))
  f20 := Tryz.func218.trans (congrArg some (by kernel_rfl))
  f30 := ⟨Tryz.f235.name, by decide, Tryz.func235.trans (congrArg some (by kernel_rfl))⟩
  f31 := Tryz.func231.trans (congrArg some (by kernel_rfl))
  f32 := Tryz.func232.trans (congrArg some (by kernel_rfl))
  f33 := ⟨Tryz.f236.name, by decide, Tryz.func236.trans (congrArg some (by kernel_rfl))⟩
  f34 := ⟨Tryz.f237.name, by decide, Tryz.func237.trans (congrArg some (by kernel_rfl))⟩
  f35 := ⟨Tryz.f190.name, by decide, Tryz.func190.trans (congrArg some (by kernel_rfl))⟩
  f40 := ⟨Tryz.f240.name, by decide, Tryz.func240.trans (congrArg some (by kernel_rfl))⟩
  t0 := Tryz.underlying0
  a0 := Tryz.isAgg0
  z0 := Tryz.sizeOf0
  v0 := Tryz.zeroValue0
  t3 := Tryz.underlying3
  a3 := Tryz.isAgg3
  z3 := Tryz.sizeOf3
  v3 := Tryz.zeroValue3
  t4 := Tryz.underlying4
  a4 := Tryz.isAgg4
  z4 := Tryz.sizeOf4
  v4 := Tryz.zeroValue4
  t5 := Tryz.underlying5
  a5 := Tryz.isAgg5
  z5 := Tryz.sizeOf5
  v5 := Tryz.zeroValue5
  t9 := Tryz.underlying9
  a9 := Tryz.isAgg9
  z9 := Tryz.sizeOf9
  v9 := Tryz.zeroValue9
  t22 := Tryz.underlying29
  a22 := Tryz.isAgg29
  z22 := Tryz.sizeOf29
  v22 := Tryz.zeroValue29
  t23 := Tryz.underlying29
  a23 := Tryz.isAgg29
  z23 := Tryz.sizeOf29
  v23 := Tryz.zeroValue29
  t25 := Tryz.underlying2
  a25 := Tryz.isAgg2
  z25 := Tryz.sizeOf2
  v25 := Tryz.zeroValue2
  t32 := Tryz.underlying125
  a32 := Tryz.isAgg125
  z32 := Tryz.sizeOf125
  v32 := Tryz.zeroValue125
  t35 := Tryz.underlying182
  a35 := Tryz.isAgg182
  z35 := Tryz.sizeOf182
  v35 := Tryz.zeroValue182
  t36 := Tryz.underlying183
  a36 := Tryz.isAgg183
  z36 := Tryz.sizeOf183
  v36 := Tryz.zeroValue183
  t41 := Tryz.underlying187
  a41 := Tryz.isAgg187
  z41 := Tryz.sizeOf187
  v41 := Tryz.zeroValue187
  t44 := Tryz.underlying190
  a44 := Tryz.isAgg190
  z44 := Tryz.sizeOf190
  v44 := Tryz.zeroValue190
  t46 := Tryz.underlying67
  a46 := Tryz.isAgg67
  z46 := Tryz.sizeOf67
  v46 := Tryz.zeroValue67
  t53 := Tryz.underlying200
  a53 := Tryz.isAgg200
  z53 := Tryz.sizeOf200
  v53 := Tryz.zeroValue200
  t57 := Tryz.underlying204
  a57 := Tryz.isAgg204
  z57 := Tryz.sizeOf204
  v57 := Tryz.zeroValue204
  t63 := Tryz.underlying209
  a63 := Tryz.isAgg209
  z63 := Tryz.sizeOf209
  v63 := Tryz.zeroValue209
  t64 := Tryz.underlying210
  a64 := Tryz.isAgg210
  z64 := Tryz.sizeOf210
  v64 := Tryz.zeroValue210 }
open Go.RowKit Go.Lib Go.Sort in
theorem Tryz.slices_Compact_int (blk off cap : Nat) (zs : List Int) (w : World) (hH : Holds (Value.int .i64) w blk off zs.toArray) (hsz : zs.length ≤ 9223372036854775807) (hcap : zs.length ≤ cap) :
    Calls Tryz.prog 175 #[.slice (some ⟨blk, off, none⟩) zs.length cap] w fun e w' => e = .returned (.slice (some ⟨blk, off, none⟩) (Lib.compact zs).length cap) ∧ ∃ q, w' = putRow (Value.int .i64) (Sort.ahead w q) blk off (Lib.compact zs ++ List.replicate (zs.length - (Lib.compact zs).length) 0).toArray := AnyG.slices_Compact_int Tryz.laysSlN43_f175 blk off cap zs w hH hsz hcap
open Go.RowKit Go.Lib Go.Sort in
theorem Tryz.slices_Compact_int_empty (a : Option Addr) (cap : Nat) (w : World) :
    Calls Tryz.prog 175 #[.slice a 0 cap] w fun e w' => e = .returned (.slice a 0 cap) ∧ w' = w := AnyG.slices_Compact_int_empty Tryz.laysSlN43_f175 a cap w
open Go.RowKit Go.Lib Go.Sort in
theorem Tryz.slices_Sort_int (blk off cap : Nat) (zs : List Int) (w : World) (hH : Holds (Value.int .i64) w blk off zs.toArray) (hblk : blk < w.heap.size) (hsz : zs.length < 4611686018427387904) :
    Calls Tryz.prog 174 #[.slice (some ⟨blk, off, none⟩) zs.length cap] w fun e w' =>
      e = .returned (.tuple #[]) ∧ ∃ n os, w' = grow (putRow (Value.int .i64) (Sort.ahead w n) blk off (zs.mergeSort fun x y => decide (x ≤ y)).toArray) os := AnyM.slices_Sort_int Tryz.laysSlM5_f174 blk off cap zs w hH hblk hsz
open Go.RowKit Go.Lib Go.Sort in
theorem Tryz.slices_Sort_int_none (p : Option Addr) (cap : Nat) (w : World) :
    Calls Tryz.prog 174 #[.slice p 0 cap] w fun e w' => e = .returned (.tuple #[]) ∧ w' = w := AnyM.slices_Sort_int_none Tryz.laysSlM5_f174 p cap w
end Go.Proofs

namespace Go.Proofs.YtihpbgjiohnekabGreat.V
set_option maxRecDepth 100000
open Go.RowKit Go.Maps Go.Sort
theorem putRow_grow0 (w : World) (g off q : Nat) (d : Array Int) : putRow (Value.int .i64) (Sort.ahead w q) g off d = Sort.grow (putRow (Value.int .i64) (Sort.ahead w q) g off d) #[] := by
  unfold Sort.grow putRow mapBlock Sort.ahead
  simp
set_option maxRecDepth 100000 in
set_option maxHeartbeats 400000 in
theorem sortInts (B : Nat) (b : Option Addr) (c : Nat) (l : List Int) (w : World) (h : Own w B (.slice b l.length c) l) (hl : l.length ≤ 1000) :
    Calls Tryz.prog 174 #[.slice b l.length c] w fun e w' => e = .returned (.tuple #[]) ∧ Own w' B (.slice b l.length c) (l.mergeSort fun x y => decide (x ≤ y)) ∧ w.grownBy w' (Value.slice b l.length c).ownBlock := by
  by_cases h0 : l.length = 0
  · obtain rfl : l = [] := List.eq_nil_of_length_eq_zero h0
    refine (Tryz.slices_Sort_int_none b c w).mono ?_
    rintro e w' ⟨rfl, rfl⟩
    exact ⟨rfl, by simpa using h, ⟨rfl, rfl, rfl, Nat.le_refl _, fun _ _ _ => rfl⟩⟩
  · rcases h.2 with ⟨-, hn⟩ | ⟨g, cap, cur, hv, hbase, hb, h1, h2, h3, h4⟩
    · exact absurd hn h0
    · injection hv with e1 e2 e3
      subst e1 e3
      rw [Nat.mul_one] at h4
      refine (Tryz.slices_Sort_int g 0 c l w (holds_of_blockI hb h4) (Array.getElem?_eq_some_iff.1 hb).1 (by omega)).mono ?_
      rintro e w' ⟨rfl, nn, os, rfl⟩
      have hlen : (l.mergeSort fun x y => decide (x ≤ y)).length = l.length := by simp
      refine ⟨rfl, ?_, grownBy_sortedI _⟩
      show World.ownsRow _ _ _ _ _ (List.mergeSort _ _).length _
      rw [hlen]
      exact ownsRow_sortedI hlen hbase hb h1 h2 h3
set_option maxRecDepth 100000 in
set_option maxHeartbeats 400000 in
theorem compactInts (B : Nat) (b : Option Addr) (c : Nat) (l : List Int) (w : World) (h : Own w B (.slice b l.length c) l) (hl : l.length ≤ 1000) :
    Calls Tryz.prog 175 #[.slice b l.length c] w fun e w' => e = .returned (.slice b (Lib.compact l).length c) ∧ Own w' B (.slice b (Lib.compact l).length c) (Lib.compact l) ∧ w.grownBy w' (Value.slice b l.length c).ownBlock := by
  by_cases h0 : l.length = 0
  · obtain rfl : l = [] := List.eq_nil_of_length_eq_zero h0
    refine (Tryz.slices_Compact_int_empty b c w).mono ?_
    rintro e w' ⟨rfl, rfl⟩
    have e0 : Lib.compact ([] : List Int) = [] := by simp [Lib.compact, Lib.compactUpTo]
    rw [e0]
    exact ⟨rfl, h, ⟨rfl, rfl, rfl, Nat.le_refl _, fun _ _ _ => rfl⟩⟩
  · rcases h.2 with ⟨-, hn⟩ | ⟨g, cap, cur, hv, hbase, hb, h1, h2, h3, h4⟩
    · exact absurd hn h0
    · injection hv with e1 e2 e3
      subst e1 e3
      rw [Nat.mul_one] at h4
      have hcl := Lib.compact_length_le l
      refine (Tryz.slices_Compact_int g 0 c l w (holds_of_blockI hb h4) (by omega) h1).mono ?_
      rintro e w' ⟨rfl, q, rfl⟩
      have hlen : (Lib.compact l ++ List.replicate (l.length - (Lib.compact l).length) 0).length = l.length := by simp; omega
      refine ⟨rfl, ?_, ?_⟩
      · rw [putRow_grow0]
        have ho := ownsRow_sortedI (w := w) (n := q) (os := #[]) (ss := l) (ts := Lib.compact l ++ List.replicate (l.length - (Lib.compact l).length) 0) hlen hbase hb h1 h2 h3
        rcases ho.2 with ⟨he, -⟩ | ⟨g', cap', cur', hv', hb1, hb2, hb3, hb4, hb5, hb6⟩
        · cases he
        · injection hv' with e1 e2 e3
          injection e1 with e1
          injection e1 with e1
          subst e1 e3
          refine ⟨by simp, .inr ⟨g, c, cur', rfl, hb1, hb2, by omega, hb4, hb5, ?_⟩⟩
          have hk := congrArg (List.take (Lib.compact l).length) hb6
          have hz : List.take (Lib.compact l).length (List.map (Value.int .i64) (Lib.compact l)) = List.map (Value.int .i64) (Lib.compact l) := List.take_of_length_le (by simp)
          rw [List.take_take, Nat.min_eq_left (by omega), List.map_append, List.take_append_of_le_length (by simp), hz] at hk
          rw [Nat.mul_one]
          exact hk
      · rw [putRow_grow0]; exact grownBy_sortedI _
theorem append1A (w : World) {ops : Array Oper} {rest : List Oper} {o : Oper} {a : Act} {Q : Exit → Act → World → Prop} (hgd : o.guard = none) (s x : Operand)
    (ho : o.op = .call { callee := .builtin .append, args := #[s, x], argTypes := #[29, 29] }) (B : Nat) (v : Value) (l : List Int) (y : Int) (n : Nat) (hn : l.length = n) (hs : a.eval s = v) (hown : Own w B v l)
    {A : Nat} (hx : a.eval x = .slice (some ⟨A, 0, none⟩) 1 1) (hA : A = w.heap.size) (hlen : l.length ≤ 2000000) (hB : B ≤ w.heap.size)
    (h : ∀ b' c' w', Own w' B (.slice b' (n + 1) c') (l ++ [y]) → Below B w w' → wpList Tryz.prog ops Q rest (a.put o.dst (.slice b' (n + 1) c')) w') :
    wpList Tryz.prog ops Q (o :: rest) a (w.alloc (.cells #[.int .i64 y] 2)) :=
  append1 w hgd s x ho B v l y n hn hs hown (by rw [hx, hA]) hlen hB fun b' c' w' h1 h2 _ => h b' c' w' h1 h2
set_option maxRecDepth 100000 in
set_option maxHeartbeats 4000000 in
theorem criticalNodes (n m b : Nat) (S : Nat → Nat → Bool) (w : World) (hI : IsArcs w b n m S) (n2 : n ≤ 10) (hm : m ≤ 100) :
    Calls Tryz.prog 112 #[.map (some b)] w fun e w' => ∃ (bb : Option Addr) (c : Nat) (l : List Int), e = .returned (.slice bb l.length c) ∧ Own w' w.heap.size (.slice bb l.length c) l ∧ (∃ ss : List Int, l = Lib.compact (ss.mergeSort fun x y => decide (x ≤ y)) ∧ ∀ x, x ∈ ss ↔ ∃ f t : Nat, f < n ∧ t < n ∧ S f t = true ∧ x = f) ∧ Below w.heap.size w w' := by
  have HI := Lib.hid hI
  have hbl := hI.lt
  clear hI
  go_enter Tryz.func112, Tryz.ntmps112
  go_wp2_with (first | (at_range; refine wpList_rangeA _ rfl _ rfl b n m S rfl HI.out ?_; intro w0 cnt hr hcm hg hz))
  go_frame
  have HR0 := Lib.hid hr
  have HG0 := Lib.hid hg
  have HZ0 := Lib.hid hz
  have HB0 : Hid (Below w.heap.size w w0) := (Below.refl _ _).grown hg (Nat.le_refl _) (fun j hj => by cases hj)
  clear hr hg hz
  go_loopw [3, 4] (fun sv _ wr => ∃ (L : Nat → Nat → Bool) (ss : List Int) (k : Nat) (bb : Option Addr) (c : Nat), sv = .slice bb ss.length c ∧ Hid (RngA wr b w.heap.size n m S L k) ∧ Hid (Own wr (w.heap.size + 1) (.slice bb ss.length c) ss) ∧ ss.length + k ≤ 100 ∧ Hid (∀ x, x ∈ ss ↔ ∃ f t : Nat, f < n ∧ t < n ∧ S f t = true ∧ L f t = false ∧ x = f) ∧ Hid (Below w.heap.size w wr) ∧ w.heap.size + 1 ≤ wr.heap.size) (fun _ _ wr => wr.rangeLeft b w.heap.size)
  case atStart =>
    exact ⟨S, [], cnt, none, 0, rfl, HR0, own_nil _ _, by simp; omega, fun x => ⟨fun h => by simp at h, fun ⟨f, t, _, _, h1, h2, _⟩ => by rw [h1] at h2; cases h2⟩, HB0, by rw [HZ0.out]; exact Nat.le_refl _⟩
  case round =>
    obtain ⟨L, ss, k, bb, c, rfl, HR, HO, hk, HM, HB, hsz⟩ := hrel
    clear HR0 HG0 HB0
    go_wp2_with (first | (at_next; refine wpList_nextA _ rfl _ rfl b _ n m S L k n2 rfl HR.out ?_ ?_))
    · intro hl0
      have HMs : Hid (∀ x, x ∈ ss ↔ ∃ f t : Nat, f < n ∧ t < n ∧ S f t = true ∧ x = f) := fun x => (HM.out x).trans ⟨fun ⟨f, t, h1, h2, h3, _, h5⟩ => ⟨f, t, h1, h2, h3, h5⟩, fun ⟨f, t, h1, h2, h3, h5⟩ => ⟨f, t, h1, h2, h3, hl0 f t h1 h2, h5⟩⟩
      have HOb : Hid (∀ j, (Value.slice bb ss.length c).ownBlock = some j → w.heap.size ≤ j) := fun j hj => by have := (own_lt HO.out hj).1; omega
      clear hl0
      go_wp2_with fail
      refine (sortInts (w.heap.size + 1) bb c ss _ HO.out (by omega)).mono ?_
      rintro e w1 ⟨rfl, ho, hg1⟩
      have hlen : (ss.mergeSort fun x y => decide (x ≤ y)).length = ss.length := by simp
      have HB1 := Lib.hid (HB.out.grown hg1 (by omega) (fun j hj => HOb.out j hj))
      have hz1 : w.heap.size ≤ w1.heap.size := HB1.out.size
      have hcc := compactInts (w.heap.size + 1) bb c (ss.mergeSort fun x y => decide (x ≤ y)) w1 (by rw [hlen]; exact ho) (by rw [hlen]; omega)
      rw [hlen] at hcc
      have HCC := Lib.hid hcc
      clear hcc hlen ho hg1
      go_wp2_with fail
      refine HCC.out.mono ?_
      rintro e w2 ⟨rfl, ho2, hg2⟩
      have HO2 := Lib.hid (ho2.mono (B' := w.heap.size) (by omega))
      have HB2 := Lib.hid (HB1.out.grown hg2 hz1 (fun j hj => HOb.out j hj))
      clear ho2 hg2
      go_wp2
      go_ret
      exact ⟨bb, c, _, rfl, HO2.out, ⟨ss, rfl, HMs.out⟩, HB2.out⟩
    · intro f t w1 k1 hf ht hl hs hr1 hlt hg1 hs1 hen
      have HR1 := Lib.hid hr1
      have HOb : Hid (Own (w1.alloc (.cells #[.int .i64 (f : Int), .int .i64 (t : Int)] 104)) (w.heap.size + 1) (.slice bb ss.length c) ss) := by
        show Own _ _ _ _
        refine (HO.out.keep (w' := w1) fun j h1 h2 => hg1.block j h2 (by intro e; injection e with e; omega)).below (b_alloc _ _)
      have HB1 := Lib.hid (HB.out.grown hg1 (by omega) (fun j hj => by cases hj; exact Nat.le_refl _))
      have HLt := Lib.hid hlt
      have HMs : Hid (∀ x, x ∈ ss ++ [(f : Int)] ↔ ∃ f' t' : Nat, f' < n ∧ t' < n ∧ S f' t' = true ∧ strike L f t f' t' = false ∧ x = f') := fun x => by
        rw [List.mem_append, HM.out x, List.mem_singleton]
        constructor
        · rintro (⟨f', t', h1, h2, h3, h4, h5⟩ | rfl)
          · exact ⟨f', t', h1, h2, h3, by unfold strike; rw [h4]; rfl, h5⟩
          · exact ⟨f, t, hf, ht, hs, by unfold strike; simp, rfl⟩
        · rintro ⟨f', t', h1, h2, h3, h4, h5⟩
          unfold strike at h4
          by_cases hq : f' = f ∧ t' = t
          · right; rw [h5, hq.1]
          · left
            refine ⟨f', t', h1, h2, h3, ?_, h5⟩
            have : (decide (f' = f) && decide (t' = t)) = false := by
              by_cases p1 : f' = f
              · by_cases p2 : t' = t
                · exact absurd ⟨p1, p2⟩ hq
                · simp [p2]
              · simp [p1]
            rw [this] at h4
            simpa using h4
      have HS1 := Lib.hid hs1
      have hszA : w.heap.size + 1 ≤ (w1.alloc (.cells #[.int .i64 (f : Int), .int .i64 (t : Int)] 104)).heap.size := by simp; omega
      have HSzA := Lib.hid hszA
      clear hr1 hg1 hs1 hl hs hlt hszA
      go_wp2_with (at_builtin; refine append1A _ rfl (.tmp 11) (.tmp 14) rfl (w.heap.size + 1) _ ss (f : Int) _ rfl rfl HOb.out rfl (by simp) (by omega) HSzA.out ?_)
      intro b4 c4 w4 hO4 hb4
      have HO4 := Lib.hid hO4
      have hb5 : Below (w.heap.size + 1) w1 w4 := ((b_alloc w1 (.cells #[.int .i64 (f : Int), .int .i64 (t : Int)] 104)).mono (by have := HS1.out; omega)).trans hb4
      have HR4 := Lib.hid (HR1.out.blocks (hb5.block b (by omega)) (hb5.block w.heap.size (by omega)))
      have HB4 := Lib.hid (HB1.out.trans (hb5.mono (by omega)))
      have hsz4 : w.heap.size + 1 ≤ w4.heap.size := by have := hb5.size; have := HS1.out; omega
      have hk1 : (ss ++ [(f : Int)]).length + k1 ≤ 100 := by rw [List.length_append]; have := HLt.out; simp; omega
      clear hO4 hb4 hb5 hen
      go_wp2
      go_roundw
      case rel => exact ⟨strike L f t, ss ++ [(f : Int)], k1, b4, c4, by rw [List.length_append]; rfl, HR4, by show Own _ _ _ _; rw [List.length_append]; exact HO4.out, hk1, HMs, HB4, hsz4⟩
      case measure => rw [HR4.out.left_eq, HR.out.left_eq]; exact HLt.out
set_option maxRecDepth 100000 in
set_option maxHeartbeats 400000 in
/-- .. of no map. -/
theorem criticalNodes_nil (w : World) :
    Calls Tryz.prog 112 #[.map none] w fun e w' => e = .returned (.slice none 0 0) ∧ Below w.heap.size w w' := by
  have hr := run_range_nilMap (P := Tryz.prog) w 98 104 4 Tryz.underlying98
  have hn := fun ty => run_next_nilMap (P := Tryz.prog) w ty 0 0 #[]
  go_enter Tryz.func112, Tryz.ntmps112
  go_wp2
  refine wp_loop_rounds 1 ?_
  rw [rounds_succ]
  go_wp2_with fail
  refine (Tryz.slices_Sort_int_none none 0 _).mono ?_
  rintro e w1 ⟨rfl, rfl⟩
  go_wp2_with fail
  refine (Tryz.slices_Compact_int_empty none 0 _).mono ?_
  rintro e w2 ⟨rfl, rfl⟩
  go_wp2
  go_ret
  exact ⟨rfl, b_alloc _ _⟩
set_option maxRecDepth 100000 in
set_option maxHeartbeats 1000000 in
theorem criticalNodesX (a : Option Addr) (n cap : Nat) (R : List (List Int)) (w : World) (h : Mat w a n R) :
    Calls Tryz.prog 41 #[.slice a n cap] w (VRes (M.nodesRes R) w) := by
  have HA := Lib.hid h
  have hRn : R.length = n := h.1
  by_cases hc : M.crCode R = 0
  · obtain ⟨h1, h2⟩ := M.cr_code hc
    have H1 := Lib.hid h1
    have H2 := Lib.hid h2
    obtain ⟨-, n1, n2, -⟩ := sq_parts h h1
    have HE : Hid (M.nodesRes R = (M.nodesL R, 0)) := by show _ = _; unfold M.nodesRes; rw [if_pos hc]
    have HRn := Lib.hid hRn
    clear h hc h1 h2 hRn
    go_enter Tryz.func41, Tryz.ntmps41
    go_wp2_with fail
    refine (criticalArcs _ _ _ R _ HA.out H1.out H2.out).mono ?_
    rintro e w1 ⟨b1, m1, rfl, -, hm1, hI, hb⟩
    have HI := Lib.hid hI
    have HB := Lib.hid hb
    clear hI hb
    go_wp2_with fail
    refine (criticalNodes n m1 b1 _ _ HI.out n2 hm1).mono ?_
    rintro e w2 ⟨b2, c2, l, rfl, ho, ⟨ss, hl, hss⟩, hb⟩
    have hN : l = M.nodesL R := by rw [hl]; exact M.srt_nodes fun x => by rw [HRn.out]; exact hss x
    have HN := Lib.hid hN
    have HO := Lib.hid (ho.mono HB.out.size)
    have HB2 := Lib.hid (HB.out.trans (hb.mono HB.out.size))
    clear ho hb hl hss hN
    go_wp2
    go_ret2
    rw [HE.out]
    refine ⟨_, _, _, rfl, ?_, HB2.out⟩
    show Own _ _ _ (M.nodesL R)
    rw [← HN.out]
    exact HO.out
  · have HC := Lib.hid hc
    obtain ⟨k, hk⟩ : ∃ k, k = M.crCode R := ⟨_, rfl⟩
    have HE : Hid (M.nodesRes R = ([], k)) := by show _ = _; unfold M.nodesRes; rw [if_neg hc, hk]
    have HK := Lib.hid hk
    clear h hc hRn hk
    go_enter Tryz.func41, Tryz.ntmps41
    go_wp2_with fail
    refine (criticalArcs_no _ _ _ R _ HA.out HC.out).mono ?_
    rintro e w1 ⟨rfl, hb⟩
    rw [← HK.out]
    have HB := Lib.hid hb
    clear hb
    go_wp2_with fail
    refine (criticalNodes_nil _).mono ?_
    rintro e w2 ⟨rfl, hb⟩
    have HB2 := Lib.hid (HB.out.trans (hb.mono HB.out.size))
    clear hb
    go_wp2
    go_ret2
    exact VRes.nil HE.out HB2.out
end Go.Proofs.YtihpbgjiohnekabGreat.V

namespace Go.Proofs.YtihpbgjiohnekabGreat
namespace M
theorem kept_ids (L : List (List Int)) (p : List Int → Bool) (k : Nat) : kept (fun i => p (L.getD i [])) k = idsK L p k := rfl
theorem cut_crM {R : List (List Int)} {n : Nat} (hn : R.length = n) : mk n n (cutF (ent R) (crB R)) = crM R := by subst hn; rfl
theorem comps_one {A : Nat → Nat → Int} {n : Nat} (h : 1 ≤ n) : 1 ≤ (compsL A n).length := by
  obtain ⟨L, e, -⟩ := compsL_first (A := A) h
  rw [e]; simp
end M
namespace V
set_option maxRecDepth 100000
open Go.RowKit
set_option maxRecDepth 100000 in
set_option maxHeartbeats 1000000 in
theorem compDel (nb : Nat) (b3 : Option Addr) (N c3 : Nat) (ns : List Int) (ra : Option Addr) (m rc : Nat) (l : List Int) (t : Bool) (w : World) (hc : w.cell? ⟨nb, 0, none⟩ = some (.slice b3 N c3)) (hns : Ints .i64 w b3 N ns) (hl : Ints .i64 w ra m l) (hm : 1 ≤ m) (ht : M.hasB ns (l.getD 0 0) = t) :
    Calls Tryz.prog 186 #[.slice ra m rc, .pointer (some ⟨nb, 0, none⟩)] w fun e w' => e = .returned (.bool (!t)) ∧ ∃ q, w' = w.drewN q := by
  obtain ⟨q, qo, x0, hra, -, hx0, cx0⟩ := hl.at 0 (by omega)
  subst hra
  rw [Nat.add_zero] at cx0
  rw [← hx0] at ht
  have HC : Hid (∀ q, Calls Tryz.prog 84 #[.slice b3 N c3, .int .i64 x0] (w.drewN q) fun e w' => e = .returned (.bool t) ∧ (w.drewN q) = w') := fun q => containsI b3 N c3 ns x0 t _ (hns.below (b_draws _ _)) (by rw [← ht]; exact M.hasB_iff)
  have hm0 : (0 : Int) < (m : Int) := by omega
  clear hns hl hx0 ht
  go_enter Tryz.func186, Tryz.ntmps186
  go_wp2
  go_quiet ((go_at_call 84; exact q_one_s (HC.out _)))
  go_wp2
  go_ret
  exact ⟨rfl, _, rfl⟩
set_option maxRecDepth 100000 in
set_option maxHeartbeats 4000000 in
theorem criticalComponents (a : Option Addr) (n cap : Nat) (R : List (List Int)) (bm m : Nat) (w : World) (h : Mat w a n R) (hs : M.sqB R = true) (hI : IsArcs w bm n m (M.crB R)) (hm : m ≤ 100) :
    Calls Tryz.prog 136 #[.slice a n cap, .map (some bm)] w fun e w' => ∃ b mm c, e = .returned (.slice b mm c) ∧ OwnM w' w.heap.size (.slice b mm c) (M.crComps R) ∧ Below w.heap.size w w' := by
  have HA := Lib.hid h
  have HRn := Lib.hid h.1
  have HI := Lib.hid hI
  have hbl := hI.lt
  obtain ⟨hr, n1, n2, -⟩ := sq_parts h hs
  have HR := Lib.hid hr
  have HSm := Lib.hid (M.crM_sm hs h.1)
  have HRc : Hid (Rect (M.crM R) n n) := by show Rect _ _ _; rw [← h.1]; exact rect_mk _ _ _
  have HCut := Lib.hid (M.cut_crM h.1)
  clear h hs hr hI
  go_enter Tryz.func136, Tryz.ntmps136
  go_wp2_with fail
  refine (criticalNodes n m bm _ _ HI.out n2 hm).mono ?_
  rintro e w1 ⟨b1, c1, l, rfl, ho, ⟨ss, hl, hss⟩, hb⟩
  have hN : l = M.nodesL R := by rw [hl]; exact M.srt_nodes fun x => by rw [HRn.out]; exact hss x
  subst hN
  clear hl hss
  have HO1 := Lib.hid ho
  have HB1 := Lib.hid hb
  have hz1 := hb.size
  clear ho hb
  obtain ⟨wb, hwb⟩ : ∃ x, x = w1.alloc (.cells #[.slice b1 (M.nodesL R).length c1] 29) := ⟨_, rfl⟩
  have HX : Hid (wb.cell? ⟨w1.heap.size, 0, none⟩ = some (.slice b1 (M.nodesL R).length c1) ∧ wb.heap.size = w1.heap.size + 1 ∧ Below w1.heap.size w1 wb) := by
    show _ ∧ _
    rw [hwb]
    exact ⟨by simp [go_sem], by simp, b_alloc _ _⟩
  have HBb := Lib.hid (HB1.out.trans (HX.out.2.2.mono hz1))
  have hzb : w.heap.size ≤ wb.heap.size := HBb.out.size
  go_wp2_with fail
  rw [← hwb]
  clear hwb
  refine (criticalPart _ _ _ R bm m _ _ (HA.out.below HBb.out) HR.out n1 n2 (HI.out.below HBb.out hbl)).mono ?_
  rintro e w2 ⟨b2, c2, rfl, ho, hb⟩
  rw [HCut.out] at ho
  have HQ2 : Hid (Sq w2 b2 n (M.crM R)) := ⟨ho.mat, HRc.out, fun i j hi hj => M.sm_wide (HSm.out i j hi hj), n1, n2⟩
  have HB2 := Lib.hid hb
  have hz2 : wb.heap.size ≤ w2.heap.size := hb.size
  clear ho hb
  go_wp2_with fail
  refine (componentsOf _ _ _ (M.crM R) _ HQ2.out).mono ?_
  rintro e w3 ⟨b3, m3, c3, rfl, ho, hb⟩
  have hm3 := ho.len
  have hone := M.comps_one (A := M.ent (M.crM R)) n1
  have hln : (M.compsL (M.ent (M.crM R)) n).length ≤ n := M.compsP_len _ _ _
  have HRow := Lib.hid (fun k (hk : k < (M.compsL (M.ent (M.crM R)) n).length) => M.crRow HRn.out hk)
  have HEnd := Lib.hid (M.crComps_ids HRn.out)
  have HB3 := Lib.hid hb
  have hz3 : w2.heap.size ≤ w3.heap.size := hb.size
  obtain ⟨V, hV⟩ := ho
  have hcap : (M.compsL (M.ent (M.crM R)) n).length ≤ c3 := by
    obtain ⟨a', c', hv, hc, -⟩ := own_form hV.2.1
    injection hv with e1 e2 e3
    omega
  generalize M.compsL (M.ent (M.crM R)) n = L at *
  subst hm3
  obtain ⟨g, -, -, hg3, -⟩ := hV.cell 0 (by omega)
  subst hg3
  have hgB := own_lt hV.2.1 (k := g) rfl
  have HV := Lib.hid hV
  have HNd : Hid (Own w3 w.heap.size (.slice b1 (M.nodesL R).length c1) (M.nodesL R)) := by
    show Own _ _ _ _
    exact ((HO1.out.below HX.out.2.2).below (HB2.out)).below (HB3.out)
  have hcell3 : w3.cell? ⟨w1.heap.size, 0, none⟩ = some (.slice b1 (M.nodesL R).length c1) := by
    have hx2 := HX.out.2.1
    rw [HB3.out.cell (p := ⟨w1.heap.size, 0, none⟩) (by show w1.heap.size < _; omega), HB2.out.cell (p := ⟨w1.heap.size, 0, none⟩) (by show w1.heap.size < _; omega)]
    exact HX.out.1
  have HD := Lib.hid (deleteF w2.heap.size g L.length c3 (.pointer (some ⟨w1.heap.size, 0, none⟩)) V (fun i => M.crPick R (L.getD i [])) w3 (by omega) hV.2.1 hcap (fun k hk => by
      obtain ⟨g', ra, rc, -, hv, -⟩ := hV.cell k hk
      exact ⟨ra, _, rc, hv⟩) (fun W k hk hc => by
      obtain ⟨g', ra, rc, -, hv, -⟩ := hV.cell k hk
      have hro : Own W w2.heap.size (.slice ra (L.getD k []).length rc) (L.getD k []) := by
        rw [← hv]
        exact (hV.2.2.1 k hk).chg hc fun kk e1 e2 => hV.2.2.2.1 k hk kk e1 (by rw [e2]; rfl)
      have hno : Own W w.heap.size (.slice b1 (M.nodesL R).length c1) (M.nodesL R) := HNd.out.chg hc fun kk e1 e2 => by
        have h1 := own_lt HO1.out e1
        have hx2 := HX.out.2.1
        have e3 : kk = g := e2
        omega
      rw [hv]
      obtain ⟨r1, r2⟩ := HRow.out k hk
      refine compDel w1.heap.size b1 _ c1 (M.nodesL R) ra _ rc (L.getD k []) _ W ?_ hno.ints' hro.ints' r1 r2
      rw [← hcell3]
      have hx2 := HX.out.2.1
      exact World.cell?_of_block (hc.other w1.heap.size (by omega))))
  clear hV hcell3
  have hb3 : Below wb.heap.size wb w3 := HB2.out.trans (HB3.out.mono hz2)
  have HBz := Lib.hid (HBb.out.trans (hb3.mono hzb))
  clear hb3
  go_wp2_with fail
  refine (HD.out).mono ?_
  rintro e w4 ⟨rfl, ho, hc⟩
  rw [M.kept_ids] at ho ⊢
  have HP : Hid (OwnM w4 w.heap.size (.slice (some ⟨g, 0, none⟩) (M.idsK L (M.crPick R) L.length).length c3) (M.crComps R)) := by
    show OwnM _ _ _ _
    rw [← HEnd.out]
    refine OwnM.mono (B := w2.heap.size) ⟨_, OwnV.pick HV.out _ (M.idsK_up _ _ _) (fun i hi => M.idsK_lt hi) ho fun i kk hi e => ?_⟩ (by omega)
    have hlt := own_lt (HV.out.2.2.1 i hi) e
    have hne := HV.out.2.2.2.1 i hi kk e
    exact ⟨hc.other kk fun e2 => hne (by rw [e2]; rfl), hlt.1, hne⟩
  have HB4 := Lib.hid (HBz.out.trans (hc.below (B := w.heap.size) fun k hk => by have e3 : k = g := hk; omega))
  clear ho hc
  generalize (M.idsK L (M.crPick R) L.length).length = mm at *
  go_wp2
  go_ret
  exact ⟨_, _, _, rfl, HP.out, HB4.out⟩
set_option maxRecDepth 100000 in
set_option maxHeartbeats 1000000 in
theorem criticalComponentsX (a : Option Addr) (n cap : Nat) (R : List (List Int)) (w : World) (h : Mat w a n R) :
    Calls Tryz.prog 67 #[.slice a n cap] w (MRes (M.compRes R) w) := by
  have HA := Lib.hid h
  by_cases hc : M.crCode R = 0
  · obtain ⟨h1, h2⟩ := M.cr_code hc
    have H1 := Lib.hid h1
    have H2 := Lib.hid h2
    have HE : Hid (M.compRes R = (M.crComps R, 0)) := by show _ = _; unfold M.compRes; rw [if_pos hc]
    clear h hc h1 h2
    go_enter Tryz.func67, Tryz.ntmps67
    go_wp2_with fail
    refine (criticalArcs _ _ _ R _ HA.out H1.out H2.out).mono ?_
    rintro e w1 ⟨b1, m1, rfl, -, hm1, hI, hb⟩
    have HI := Lib.hid hI
    have HB := Lib.hid hb
    clear hI hb
    go_wp2_with fail
    refine (criticalComponents _ _ _ R _ _ _ (HA.out.below HB.out) H1.out HI.out hm1).mono ?_
    rintro e w2 ⟨b2, m2, c2, rfl, ho, hb⟩
    have HO := Lib.hid (ho.mono HB.out.size)
    have HB2 := Lib.hid (HB.out.trans (hb.mono HB.out.size))
    clear ho hb
    go_wp2
    go_ret2
    rw [HE.out]
    exact ⟨_, _, _, rfl, HO.out, HB2.out⟩
  · have HC := Lib.hid hc
    obtain ⟨k, hk⟩ : ∃ k, k = M.crCode R := ⟨_, rfl⟩
    have HE : Hid (M.compRes R = ([], k)) := by show _ = _; unfold M.compRes; rw [if_neg hc, hk]
    have HK := Lib.hid hk
    have hk0 : (k != 0) = true := by rw [hk]; simpa using hc
    clear h hc hk
    go_enter Tryz.func67, Tryz.ntmps67
    go_wp2_with fail
    refine (criticalArcs_no _ _ _ R _ HA.out HC.out).mono ?_
    rintro e w1 ⟨rfl, hb⟩
    rw [← HK.out]
    have HB := Lib.hid hb
    clear hb
    go_wp2
    go_ret2
    exact MRes.nil HE.out HB.out
end V
end Go.Proofs.YtihpbgjiohnekabGreat

namespace Go.Proofs.YtihpbgjiohnekabGreat.V
open Go.RowKit

end Go.Proofs.YtihpbgjiohnekabGreat.V

namespace Go.Proofs.YtihpbgjiohnekabGreat.V
open Go.RowKit

end Go.Proofs.YtihpbgjiohnekabGreat.V
