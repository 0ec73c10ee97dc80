/- Texts laid together: Rm0, Join, Tm0, Rm1, Parse. -/
import Derived.Test.YtgkceafhagfkhaaDoorQd8
import Derived.Shelf.Strings.OnBuilder
import Derived.Test.YtgkceafhagfkhaaDoorProg
import Derived.Test.YtgkceafhagfkhaaDoorQd4
import Derived.Test.YtgkceafhagfkhaaDoorQd3
import Derived.Lib.Join
import Derived.Test.YtgkceafhagfkhaaDoorRows
import Derived.Test.YtgkceafhagfkhaaDoorQd1
import Derived.Test.YtgkceafhagfkhaaDoorQd5
import Derived.WalkKit
import Derived.ProofKit
import Derived.WalkSmall
import Derived.Deep.QuietTactic
import Derived.BigQuiet
import Derived.BigRegion
import Derived.Deep.Draws
import Derived.Lib.Hide
import Derived.OpenShut
import Derived.Deep.OwnRows
import Derived.Maps.AppendAt
import Derived.Shelf.LaysC
import Derived.Shelf.Strconv.ParseIntPublic10
import Derived.Shelf.Strconv.ErrVarParseInt
set_option linter.unusedSimpArgs false
set_option linter.unusedVariables false
set_option linter.unusedSectionVars false
namespace Go.Proofs.YtgkceafhagfkhaaDoor.M
open Go.Lib

/-- Where the loop of a splitting stands: at k, with P laid and a piece begun at f. -/
def SplitInv (c : UInt8) (l : List UInt8) (f k : Nat) (P : List (List UInt8)) : Prop :=
  P.length ≤ f ∧ ((k ≤ l.length ∧ f ≤ k ∧ splitL c l = P ++ splitL c (l.drop f) ∧ ∀ x ∈ (l.drop f).take (k - f), x ≠ c) ∨ (k = l.length + 1 ∧ f = k ∧ splitL c l = P))
theorem inv0 (c : UInt8) (l : List UInt8) : SplitInv c l 0 0 [] := ⟨Nat.le_refl _, .inl ⟨Nat.zero_le _, Nat.le_refl _, by simp, by simp⟩⟩
theorem inv_le {c : UInt8} {l : List UInt8} {f k : Nat} {P : List (List UInt8)} (h : SplitInv c l f k P) : k ≤ l.length + 1 ∧ f ≤ k ∧ P.length ≤ f := by
  obtain ⟨h0, ⟨h1, h2, -, -⟩ | ⟨h1, h2, -⟩⟩ := h <;> omega
theorem inv_end {c : UInt8} {l : List UInt8} {f : Nat} {P : List (List UInt8)} (h : SplitInv c l f l.length P) : SplitInv c l (l.length + 1) (l.length + 1) (P ++ [(l.drop f).take (l.length - f)]) := by
  obtain ⟨h0, ⟨-, h2, h3, h4⟩ | ⟨h1, -⟩⟩ := h
  · have e : (l.drop f).take (l.length - f) = l.drop f := List.take_of_length_le (by simp)
    rw [e] at h4 ⊢
    exact ⟨by simp; omega, .inr ⟨rfl, rfl, by rw [h3, splitL_miss c _ h4]⟩⟩
  · omega
theorem inv_hit {c : UInt8} {l : List UInt8} {f k : Nat} {P : List (List UInt8)} (h : SplitInv c l f k P) (hk : k < l.length) (hc : l[k] = c) : SplitInv c l (k + 1) (k + 1) (P ++ [(l.drop f).take (k - f)]) := by
  obtain ⟨h0, ⟨-, h2, h3, h4⟩ | ⟨h1, -⟩⟩ := h
  · have e : l.drop f = (l.drop f).take (k - f) ++ c :: l.drop (k + 1) := by
      conv => lhs; rw [← List.take_append_drop (k - f) (l.drop f)]
      rw [List.drop_drop, show f + (k - f) = k from by omega, List.drop_eq_getElem_cons hk, hc]
    refine ⟨by simp; omega, .inl ⟨hk, Nat.le_refl _, ?_, by simp⟩⟩
    rw [h3]
    conv => lhs; rw [e, splitL_hit c _ _ h4]
    simp
  · omega
theorem inv_miss {c : UInt8} {l : List UInt8} {f k : Nat} {P : List (List UInt8)} (h : SplitInv c l f k P) (hk : k < l.length) (hc : l[k] ≠ c) : SplitInv c l f (k + 1) P := by
  obtain ⟨h0, ⟨-, h2, h3, h4⟩ | ⟨h1, -⟩⟩ := h
  · refine ⟨h0, .inl ⟨hk, by omega, h3, fun x hx => ?_⟩⟩
    rw [show k + 1 - f = (k - f) + 1 from by omega, List.take_add_one] at hx
    rcases List.mem_append.1 hx with hx | hx
    · exact h4 x hx
    · rw [List.getElem?_drop, show f + (k - f) = k from by omega, List.getElem?_eq_getElem hk] at hx
      simp at hx
      rw [hx]; exact hc
  · omega
theorem inv_fin {c : UInt8} {l : List UInt8} {f : Nat} {P : List (List UInt8)} (h : SplitInv c l f (l.length + 1) P) : P = splitL c l := by
  obtain ⟨h0, ⟨h1, -⟩ | ⟨-, -, h3⟩⟩ := h
  · omega
  · exact h3.symm
end Go.Proofs.YtgkceafhagfkhaaDoor.M

namespace Go.Proofs
open Go.Shelf
def Tryd.lays156_ren : Go.Shelf.Ren := ⟨fun | 156 => 23 | 165 => 43 | 166 => 44 | 169 => 45 | 240 => 57 | 241 => 58 | 276 => 70 | 277 => 71 | n => n, fun | 31 => 38 | 9 => 9 | 3 => 3 | 4 => 4 | 0 => 0 | 20 => 20 | 72 => 61 | 76 => 65 | 70 => 59 | 37 => 22 | 75 => 64 | 127 => 75 | 164 => 82 | 5 => 5 | 80 => 58 | n => n, fun | n => n⟩
theorem Tryd.lays156 : Go.Proofs.Lays.n156 Tryd.prog Tryd.lays156_ren := {
  mixed := by kernel_rfl
  f156 := Tryd.func23.trans (congrArg some (by kernel_rfl))
  f165 := Tryd.func43.trans (congrArg some (by kernel_rfl))
  f166 := Tryd.func44.trans (congrArg some (by kernel_rfl))
  f169 := Tryd.func45.trans (congrArg some (by kernel_rfl))
  f240 := Tryd.func57.trans (congrArg some (by kernel_rfl))
  f241 := Tryd.func58.trans (congrArg some (by kernel_rfl))
  f276 := Tryd.func70.trans (congrArg some (by kernel_rfl))
  f277 := Tryd.func71.trans (congrArg some (by kernel_rfl))
  t0 := Tryd.underlying0
  a0 := Tryd.isAgg0
  z0 := Tryd.sizeOf0
  v0 := Tryd.zeroValue0
  t3 := Tryd.underlying3
  a3 := Tryd.isAgg3
  z3 := Tryd.sizeOf3
  v3 := Tryd.zeroValue3
  t4 := Tryd.underlying4
  a4 := Tryd.isAgg4
  z4 := Tryd.sizeOf4
  v4 := Tryd.zeroValue4
  t9 := Tryd.underlying9
  a9 := Tryd.isAgg9
  z9 := Tryd.sizeOf9
  v9 := Tryd.zeroValue9
  t20 := Tryd.underlying20
  a20 := Tryd.isAgg20
  z20 := Tryd.sizeOf20
  v20 := Tryd.zeroValue20
  t31 := Tryd.underlying38
  a31 := Tryd.isAgg38
  z31 := Tryd.sizeOf38
  v31 := Tryd.zeroValue38
  t37 := Tryd.underlying22
  a37 := Tryd.isAgg22
  z37 := Tryd.sizeOf22
  v37 := Tryd.zeroValue22
  t70 := Tryd.underlying59
  a70 := Tryd.isAgg59
  z70 := Tryd.sizeOf59
  v70 := Tryd.zeroValue59
  t72 := Tryd.underlying61
  a72 := Tryd.isAgg61
  z72 := Tryd.sizeOf61
  v72 := Tryd.zeroValue61
  t75 := Tryd.underlying64
  a75 := Tryd.isAgg64
  z75 := Tryd.sizeOf64
  v75 := Tryd.zeroValue64
  t76 := Tryd.underlying65
  a76 := Tryd.isAgg65
  z76 := Tryd.sizeOf65
  v76 := Tryd.zeroValue65
  t127 := Tryd.underlying75
  a127 := Tryd.isAgg75
  z127 := Tryd.sizeOf75
  v127 := Tryd.zeroValue75
  t164 := Tryd.underlying82
  a164 := Tryd.isAgg82
  z164 := Tryd.sizeOf82
  v164 := Tryd.zeroValue82 }
theorem Tryd.Builder_Extra_156 : Builder.Extra Tryd.prog Tryd.lays156_ren := {
  sizeBuilder := by kernel_rfl
  liesBuilder := by kernel_rfl
  t5 := Tryd.underlying5
  a5 := Tryd.isAgg5
  z5 := Tryd.sizeOf5
  v5 := Tryd.zeroValue5
  infoByte := by kernel_rfl
  cellsByte := by kernel_rfl
  sizeByte := by kernel_rfl
  neB5 := by decide }
open Go.RowKit in
theorem Tryd.strings_Join_none (a : Option Addr) (c : Nat) (sep : ByteArray) (w : World) :
    Calls Tryd.prog 23 #[.slice a 0 c, .string sep] w fun e w' => e = .returned (.string ⟨#[]⟩) ∧ w' = w := Any.strings_Join_none Tryd.lays156 Tryd.Builder_Extra_156 a c sep w
open Go.RowKit in
theorem Tryd.strings_Join (bk o c : Nat) (xs : List ByteArray) (sep : ByteArray) (w : World) (hcells : ∀ (j : Nat) x, xs[j]? = some x → w.cell? ⟨bk, o + j, none⟩ = some (.string x)) (hbk : bk < w.heap.size) (hN : xs.length ≤ 140737488355328) (hcap : xs.length ≤ c) (hlen : (Lib.join (xs.map (·.data.toList)) sep.data.toList).length ≤ 140737488355328) :
    Calls Tryd.prog 23 #[.slice (some ⟨bk, o, none⟩) xs.length c, .string sep] w fun e w' => e = .returned (.string ⟨(Lib.join (xs.map (·.data.toList)) sep.data.toList).toArray⟩) ∧ Below w.heap.size w w' := Any.strings_Join Tryd.lays156 Tryd.Builder_Extra_156 bk o c xs sep w hcells hbk hN hcap hlen
end Go.Proofs

namespace Go.Proofs.YtgkceafhagfkhaaDoor.V
open Go.RowKit

/-- A slice that the call owns, in blocks from B on, holding the texts L. -/
def OwnT (w : World) (B : Nat) (v : Value) (L : List (List UInt8)) : Prop := w.ownsRow B 9 1 v L.length (L.map fun x => Value.string ⟨x.toArray⟩)
theorem OwnT.keep {w w' : World} {B : Nat} {v : Value} {L : List (List UInt8)} (h : OwnT w B v L) (hk : ∀ k, B ≤ k → k < w.heap.size → w'.heap[k]? = w.heap[k]?) : OwnT w' B v L :=
  ownsRow_keep h fun k hv => hk k (own_lt h hv).1 (own_lt h hv).2
theorem OwnT.below {w w' : World} {B : Nat} {v : Value} {L : List (List UInt8)} (h : OwnT w B v L) (hb : Below w.heap.size w w') : OwnT w' B v L :=
  h.keep (fun k _ h2 => hb.block k h2)
theorem ownT_made (w : World) (B n : Nat) (hB : B ≤ w.heap.size) (hn : n ≤ maxLen) : OwnT (w.alloc (.cells (madeCells #[.string ⟨#[]⟩] n) 9)) B (.slice (some ⟨w.heap.size, 0, none⟩) n n) ((List.range n).map fun _ => []) := by
  have h := World.rowIs_made w (.string ⟨#[]⟩) n 9
  obtain ⟨c, hb, hs, hc⟩ := h
  refine ⟨by simp, .inr ⟨w.heap.size, n, c, by simp, hB, hb, by simp, hn, by simp [hs], ?_⟩⟩
  apply List.ext_getElem
  · simp [hs]
  · intro i h1 h2
    simp only [List.length_map, List.length_range] at h2
    have := hc i h2
    simp [List.getElem_take]
    rw [Array.getElem?_eq_getElem (by omega)] at this
    exact Option.some.inj this
theorem OwnT.len {w : World} {B n cap : Nat} {a : Option Addr} {L : List (List UInt8)} (h : OwnT w B (.slice a n cap) L) : n = L.length := by
  obtain ⟨a', c, hv, _⟩ := own_form h
  injection hv
theorem OwnT.frozenAt {w : World} {B g n cap : Nat} {L : List (List UInt8)} (h : OwnT w B (.slice (some ⟨g, 0, none⟩) n cap) L) (j : Nat) : w.frozen? ⟨g, j, none⟩ = false := by
  have e := h.len
  subst e
  exact World.ownsRow.frozenAt h j
theorem OwnT.cellAt {w : World} {B g n cap : Nat} {L : List (List UInt8)} (h : OwnT w B (.slice (some ⟨g, 0, none⟩) n cap) L) (j : Nat) (hj : j < n) : w.cell? ⟨g, j, none⟩ = some (.string ⟨(L.getD j []).toArray⟩) := by
  have e := h.len
  subst e
  rw [World.ownsRow.cellAt h j (by omega)]
  simp [hj]
theorem OwnT.set {w : World} {B g n cap : Nat} {L : List (List UInt8)} (h : OwnT w B (.slice (some ⟨g, 0, none⟩) n cap) L) (i : Nat) (x : List UInt8) : OwnT (w.setCell ⟨g, i, none⟩ (.string ⟨x.toArray⟩)) B (.slice (some ⟨g, 0, none⟩) n cap) (L.set i x) := by
  have hn : n = L.length := by
    obtain ⟨a, c, hv, _⟩ := own_form h
    injection hv
  subst hn
  have := (World.ownsRow.stored h i (.string ⟨x.toArray⟩)).1
  unfold OwnT
  simpa [List.map_set] using this
/-- A slice of texts that is filled up to k. -/
def fillT (F : Nat → List UInt8) (n k : Nat) : List (List UInt8) := (List.range n).map fun i => if i < k then F i else []
theorem fillT_set (F : Nat → List UInt8) (n k : Nat) : (fillT F n k).set k (F k) = fillT F n (k + 1) := by
  unfold fillT
  apply List.ext_getElem
  · simp
  · intro j h1 h2
    simp only [List.length_map, List.length_range] at h2
    rw [List.getElem_set]
    simp only [List.getElem_map, List.getElem_range]
    by_cases e : k = j
    · subst e; simp
    · rw [if_neg e]
      by_cases e2 : j < k
      · rw [if_pos e2, if_pos (by omega)]
      · rw [if_neg e2, if_neg (by omega)]
theorem fillT_zero (F : Nat → List UInt8) (n : Nat) : fillT F n 0 = (List.range n).map fun _ => [] := by unfold fillT; simp
theorem fillT_all (F : Nat → List UInt8) (n : Nat) : fillT F n n = (List.range n).map F := by
  unfold fillT
  refine List.map_congr_left fun i hi => ?_
  rw [if_pos (List.mem_range.1 hi)]
theorem infoT : (Tryd.prog.info? 9).map (fun i => (i.zero, i.size, i.bytes)) = some (some (.string ⟨#[]⟩), 1, 16) := by kernel_rfl
theorem joinT_len (L : List (List UInt8)) (sep : List UInt8) (m : Nat) (h : ∀ x ∈ L, x.length ≤ m) : (Lib.join L sep).length ≤ (m + sep.length) * L.length := by
  cases L with
  | nil => simp [Lib.join_nil]
  | cons x r =>
    rw [Lib.join_cons, List.length_append, Lib.joinTail_length]
    have hl : ∀ r : List (List UInt8), (∀ x ∈ r, x.length ≤ m) → Lib.lens r ≤ m * r.length := by
      intro r
      induction r with
      | nil => intro _; simp [Lib.lens]
      | cons y r ih =>
        intro h
        have h1 := h y (by simp)
        have h2 := ih fun z hz => h z (by simp [hz])
        simp only [Lib.lens, List.map_cons, List.sum_cons, List.length_cons] at h2 ⊢
        rw [Nat.mul_succ]; omega
    have h1 := h x (by simp)
    have h2 := hl r fun z hz => h z (by simp [hz])
    rw [List.length_cons, Nat.mul_succ, Nat.add_mul]
    omega
theorem joinT (w : World) (B g n cap : Nat) (L : List (List UInt8)) (sep : List UInt8) (h : OwnT w B (.slice (some ⟨g, 0, none⟩) n cap) L) (hcap : n ≤ cap) (hn : n ≤ 1000000) (hlen : (Lib.join L sep).length ≤ 140737488355328) :
    Calls Tryd.prog 23 #[.slice (some ⟨g, 0, none⟩) n cap, .string ⟨sep.toArray⟩] w (TxtPost (Lib.join L sep) w) := by
  have hl := h.len
  have e : ((L.map fun x => (⟨x.toArray⟩ : ByteArray)).map (·.data.toList)) = L := by
    rw [List.map_map]; exact List.map_id'' (fun x => rfl) L
  have hk := Go.Proofs.Tryd.strings_Join g 0 cap (L.map fun x => ⟨x.toArray⟩) ⟨sep.toArray⟩ w (fun j x hj => by
    rw [List.getElem?_map] at hj
    have hj2 : j < L.length := by
      rcases Nat.lt_or_ge j L.length with h | h
      · exact h
      · rw [List.getElem?_eq_none h] at hj; cases hj
    rw [Nat.zero_add, h.cellAt j (by omega)]
    rw [List.getElem?_eq_getElem hj2] at hj
    simp at hj
    subst hj
    simp [hj2]) (own_lt h rfl).2 (by simp; omega) (by simp; omega) (by rw [e]; exact hlen)
  rw [List.length_map, ← hl, e] at hk
  refine hk.mono ?_
  rintro x w' ⟨rfl, hb⟩
  exact ⟨_, rfl, rfl, hb⟩
theorem vtxt_len (a : Int) : (vtxt a).length ≤ 20 := by
  unfold vtxt
  split
  · next h =>
    unfold txt
    split
    · simp
    · obtain ⟨b1, b2⟩ := M.isVal_bound h
      unfold Go.Lib.itoa
      split
      · have := dlen 18 a.natAbs (by omega)
        simp; omega
      · have := dlen 18 a.toNat (by omega)
        omega
  · simp
end Go.Proofs.YtgkceafhagfkhaaDoor.V

namespace Go.Proofs.YtgkceafhagfkhaaDoor.V
open Go.RowKit

theorem ownT_lit0 (w : World) (B : Nat) (hB : B ≤ w.heap.size) : OwnT (w.alloc (.cells #[] 9)) B (.slice (some ⟨w.heap.size, 0, none⟩) 0 0) [] :=
  World.ownsRow_lit w #[] 0 hB (by decide) rfl
theorem appendT (w : World) {ops : Array Oper} {rest : List Oper} {o : Oper} {a : Act} {Q : Exit → Act → World → Prop} (hgd : o.guard = none) (s x : Operand)
    (ho : o.op = .call { callee := .builtin .append, args := #[s, x], argTypes := #[38, 38] }) (B : Nat) (v : Value) (L : List (List UInt8)) (y : ByteArray) (n : Nat) (hn : L.length = n) (hs : a.eval s = v) (hown : OwnT w B v L)
    (hx : a.eval x = .slice (some ⟨w.heap.size, 0, none⟩) 1 1) (hlen : L.length ≤ 2000000) (hB : B ≤ w.heap.size)
    (h : ∀ b' c' w', OwnT w' B (.slice b' (n + 1) c') (L ++ [y.data.toList]) → Below B w w' → (∀ k, k < w.heap.size → v.ownBlock ≠ some k → w'.heap[k]? = w.heap[k]?) → wpList Tryd.prog ops Q rest (a.put o.dst (.slice b' (n + 1) c')) w') :
    wpList Tryd.prog ops Q (o :: rest) a (w.alloc (.cells #[.string y] 9)) := by
  subst hn
  obtain ⟨i0, hi, hz0, hz1, hz2⟩ := info_parts infoT
  have hown2 : (w.alloc (.cells #[.string y] 9)).ownsRow B 9 1 v L.length (L.map fun x => Value.string ⟨x.toArray⟩) := World.ownsRow.alloc hown _
  refine wpList_append_own_at (w := w.alloc (.cells #[.string y] 9)) hgd s x 38 ho B 9 i0 (.string ⟨#[]⟩) 1 16 Tryd.underlying38 hi hz0 hz1 hz2 rfl (by decide) v _ _ hs hown2 ⟨w.heap.size, 0, none⟩ 1 1 [.string y] hx rfl (cell_one_new _ _ _) ?c2 ?c3 ?c4 ?c5 ?_
  case c2 => intro u hu; simp at hu; subst hu; rfl
  case c3 => unfold maxLen; omega
  case c4 => omega
  case c5 => simp; omega
  · intro v' w' hown' hgrow hz hvb
    have ho' : OwnT w' B v' (L ++ [y.data.toList]) := by
      show w'.ownsRow B _ 1 v' (L ++ [y.data.toList]).length ((L ++ [y.data.toList]).map fun x => Value.string ⟨x.toArray⟩)
      simpa using hown'
    obtain ⟨b', c', hv', _⟩ := own_form ho'
    rw [show (L ++ [y.data.toList]).length = L.length + 1 by simp] at hv'
    subst hv'
    refine h b' c' w' ho' (((Below.refl B w).alloc hB _).grown hgrow (by simp; omega) (fun k hk => (own_lt hown hk).1)) (fun k hk hne => ?_)
    obtain ⟨g1, g2, g3, g4, g5⟩ := hgrow
    rw [g5 k (by simp; omega) (fun e => hne e.symm), Below.heap_alloc _ _ _ hk]

/-- A slice of texts that is handed out. -/
def TPost (L : List (List UInt8)) (w : World) (e : Ending) (w' : World) : Prop :=
  ∃ a cap, e = .returned (.slice a L.length cap) ∧ OwnT w' w.heap.size (.slice a L.length cap) L ∧ Below w.heap.size w w'

set_option maxRecDepth 100000 in
set_option maxHeartbeats 4000000 in
theorem sSplit (s : ByteArray) (ci : Int) (c : UInt8) (w : World) (hc : ci = (c.toNat : Int)) (hs : s.size ≤ 1048576) :
    Calls Tryd.prog 28 #[.string s, .int .u8 ci] w (TPost (M.splitL c s.data.toList) w) := by
  have hlen : s.data.toList.length = s.size := Array.length_toList
  have HLEN := Lib.hid hlen
  clear hlen
  have HC := Lib.hid hc
  clear hc
  have hO0 : Hid (OwnT (w.alloc (.cells #[] 9)) w.heap.size (.slice (some ⟨w.heap.size, 0, none⟩) 0 0) []) := ownT_lit0 w _ (Nat.le_refl _)
  go_enter Tryd.func28, Tryd.ntmps28
  go_wp2
  go_loopw [5, 6, 7] (fun out from_ i wr => ∃ (k f t : Nat) (b : Option Addr) (cp : Nat) (P : List (List UInt8)), k ≤ s.size + 1 ∧ f ≤ k ∧ i = .int .i64 k ∧ from_ = .int .i64 f ∧ out = .slice b t cp ∧ t ≤ f ∧ Hid (t = P.length) ∧ Hid (OwnT wr w.heap.size (.slice b t cp) P) ∧ Hid (M.SplitInv c s.data.toList f k P) ∧ Below w.heap.size w wr) (fun _ _ i _ => s.size + 1 - (intOf i).toNat)
  case atStart => exact ⟨0, 0, 0, _, _, [], Nat.zero_le _, Nat.le_refl _, rfl, rfl, rfl, Nat.le_refl _, rfl, hO0, M.inv0 _ _, b_alloc _ _⟩
  case round =>
    obtain ⟨k, f, t, b, cp, P, hk, hf, rfl, rfl, rfl, htf, HT, HO, HI, hb⟩ := hrel
    obtain ⟨wo, rfl⟩ : ∃ x, x = wr := ⟨_, rfl⟩
    have HB := Lib.hid hb
    clear hb hO0
    have hz : w.heap.size ≤ wo.heap.size := HB.out.size
    by_cases hk1 : k = s.size + 1
    · have hki : (s.size : Int) < (k : Int) := by omega
      have HK := Lib.hid hk1
      clear hk1
      go_wp2
      go_ret
      have e : P = M.splitL c s.data.toList := M.inv_fin (f := f) (by have := HI.out; rw [HK.out, ← HLEN.out] at this; exact this)
      have ht := HT.out
      rw [e] at ht
      subst ht
      exact ⟨b, cp, rfl, e ▸ HO.out, HB.out⟩
    · have hki : (k : Int) ≤ (s.size : Int) := by omega
      by_cases hke : k = s.size
      · subst hke
        have hfi : (f : Int) ≤ (s.size : Int) := by omega
        have HN : Hid (M.SplitInv c s.data.toList (s.size + 1) (s.size + 1) (P ++ [(s.data.toList.drop f).take (s.size - f)])) := by
          have := HI.out
          rw [← HLEN.out] at this
          have := M.inv_end this
          rw [HLEN.out] at this
          exact this
        go_wp2_with (at_builtin; refine appendT _ rfl (.tmp 26) (.tmp 31) rfl w.heap.size _ P (s.extract f s.size) t HT.out.symm rfl HO.out rfl (by rw [← HT.out]; omega) hz ?_)
        intro b2 c2 w2 hO2 hb2 _
        have HO2 := Lib.hid hO2
        have HB2 := Lib.hid (HB.out.trans hb2)
        clear hO2 hb2
        go_wp2
        go_roundw
        case rel => exact ⟨s.size + 1, s.size + 1, t + 1, _, _, _, by omega, by omega, by go_num, by go_num, rfl, by omega, (by show t + 1 = _; simp [HT.out]), HO2, HN, HB2.out⟩
        case measure => simp [intOf]
      · have hlt : k < s.size := by omega
        have hll : k < s.data.toList.length := by rw [HLEN.out]; exact hlt
        have hne : ¬ (k : Int) = (s.size : Int) := by omega
        have hke1 : (k : Int) < (s.size : Int) := by omega
        have hfi : (f : Int) ≤ (k : Int) := by omega
        clear hk1 hke
        have HG : Hid (s.data.toList[k] = s[k]) := rfl
        by_cases hc : s[k] = c
        · have hcc : (s[k].toNat : Int) = ci := by rw [HC.out, hc]
          have HN : Hid (M.SplitInv c s.data.toList (k + 1) (k + 1) (P ++ [(s.data.toList.drop f).take (k - f)])) := by
            exact M.inv_hit HI.out hll (by rw [HG.out, hc])
          clear hc
          go_wp2_with (at_builtin; refine appendT _ rfl (.tmp 26) (.tmp 31) rfl w.heap.size _ P (s.extract f k) t HT.out.symm rfl HO.out rfl (by rw [← HT.out]; omega) hz ?_)
          intro b2 c2 w2 hO2 hb2 _
          have HO2 := Lib.hid hO2
          have HB2 := Lib.hid (HB.out.trans hb2)
          clear hO2 hb2
          go_wp2
          go_roundw
          case rel => exact ⟨k + 1, k + 1, t + 1, _, _, _, by omega, by omega, by go_num, by go_num, rfl, by omega, (by show t + 1 = _; simp [HT.out]), HO2, HN, HB2.out⟩
          case measure => simp [intOf]; omega
        · have hcc : ((s[k].toNat : Int) == ci) = false := by
            rw [HC.out, beq_eq_false_iff_ne]
            intro e
            exact hc (UInt8.toNat_inj.1 (by omega))
          have hbe : ((k : Int) == (s.size : Int)) = false := by rw [beq_eq_false_iff_ne]; exact hne
          clear hne
          have HN : Hid (M.SplitInv c s.data.toList f (k + 1) P) := M.inv_miss HI.out hll (by rw [HG.out]; exact hc)
          clear hc
          go_wp2
          go_roundw
          case rel => exact ⟨k + 1, f, t, _, _, P, by omega, by omega, by go_num, rfl, rfl, htf, HT, HO, HN, HB.out⟩
          case measure => simp [intOf]; omega
end Go.Proofs.YtgkceafhagfkhaaDoor.V

namespace Go.Proofs
open Go.Shelf
def Tryd.laysC174_ren : Go.Shelf.Ren := ⟨fun | 174 => 62 | 247 => 76 | 245 => 77 | 287 => 90 | 279 => 91 | 280 => 92 | 281 => 93 | 282 => 94 | 321 => 102 | 322 => 103 | 316 => 104 | 171 => 106 | 205 => 105 | 243 => 109 | 246 => 69 | 283 => 81 | 284 => 82 | 285 => 83 | 286 => 84 | 129 => 96 | 317 => 95 | 318 => 97 | 319 => 98 | 320 => 99 | 337 => 107 | 338 => 108 | n => n, fun | 9 => 9 | 3 => 3 | 2 => 2 | 75 => 64 | 85 => 78 | 4 => 4 | 167 => 99 | 5 => 5 | 53 => 92 | 175 => 100 | 46 => 98 | 168 => 102 | 37 => 22 | 0 => 0 | 210 => 120 | 21 => 21 | 127 => 75 | 145 => 125 | 143 => 123 | 171 => 91 | 173 => 95 | 212 => 106 | 51 => 107 | 20 => 20 | 213 => 108 | 232 => 126 | 233 => 127 | 80 => 58 | n => n, fun | 15 => 4 | 16 => 5 | 17 => 1 | 18 => 6 | 19 => 7 | n => n⟩
theorem Tryd.laysC174 : Go.Proofs.LaysC.n174 Tryd.prog Tryd.laysC174_ren := {
  mixed := by kernel_rfl
  f129 := Tryd.func96.trans (congrArg some (by kernel_rfl))
  f171 := Tryd.func106.trans (congrArg some (by kernel_rfl))
  f174 := Tryd.func62.trans (congrArg some (by kernel_rfl))
  f205 := Tryd.func105.trans (congrArg some (by kernel_rfl))
  f243 := Tryd.func109.trans (congrArg some (by kernel_rfl))
  f245 := Tryd.func77.trans (congrArg some (by kernel_rfl))
  f246 := Tryd.func69.trans (congrArg some (by kernel_rfl))
  f247 := Tryd.func76.trans (congrArg some (by kernel_rfl))
  f279 := Tryd.func91.trans (congrArg some (by kernel_rfl))
  f280 := Tryd.func92.trans (congrArg some (by kernel_rfl))
  f281 := Tryd.func93.trans (congrArg some (by kernel_rfl))
  f282 := Tryd.func94.trans (congrArg some (by kernel_rfl))
  f283 := Tryd.func81.trans (congrArg some (by kernel_rfl))
  f284 := Tryd.func82.trans (congrArg some (by kernel_rfl))
  f285 := Tryd.func83.trans (congrArg some (by kernel_rfl))
  f286 := Tryd.func84.trans (congrArg some (by kernel_rfl))
  f287 := Tryd.func90.trans (congrArg some (by kernel_rfl))
  f316 := Tryd.func104.trans (congrArg some (by kernel_rfl))
  f317 := Tryd.func95.trans (congrArg some (by kernel_rfl))
  f318 := Tryd.func97.trans (congrArg some (by kernel_rfl))
  f319 := Tryd.func98.trans (congrArg some (by kernel_rfl))
  f320 := Tryd.func99.trans (congrArg some (by kernel_rfl))
  f321 := Tryd.func102.trans (congrArg some (by kernel_rfl))
  f322 := Tryd.func103.trans (congrArg some (by kernel_rfl))
  f337 := Tryd.func107.trans (congrArg some (by kernel_rfl))
  f338 := Tryd.func108.trans (congrArg some (by kernel_rfl))
  t0 := Tryd.underlying0
  a0 := Tryd.isAgg0
  z0 := Tryd.sizeOf0
  v0 := Tryd.zeroValue0
  t2 := Tryd.underlying2
  a2 := Tryd.isAgg2
  z2 := Tryd.sizeOf2
  v2 := Tryd.zeroValue2
  t3 := Tryd.underlying3
  a3 := Tryd.isAgg3
  z3 := Tryd.sizeOf3
  v3 := Tryd.zeroValue3
  t4 := Tryd.underlying4
  a4 := Tryd.isAgg4
  z4 := Tryd.sizeOf4
  v4 := Tryd.zeroValue4
  t5 := Tryd.underlying5
  a5 := Tryd.isAgg5
  z5 := Tryd.sizeOf5
  v5 := Tryd.zeroValue5
  t9 := Tryd.underlying9
  a9 := Tryd.isAgg9
  z9 := Tryd.sizeOf9
  v9 := Tryd.zeroValue9
  t20 := Tryd.underlying20
  a20 := Tryd.isAgg20
  z20 := Tryd.sizeOf20
  v20 := Tryd.zeroValue20
  t21 := Tryd.underlying21
  a21 := Tryd.isAgg21
  z21 := Tryd.sizeOf21
  v21 := Tryd.zeroValue21
  t37 := Tryd.underlying22
  a37 := Tryd.isAgg22
  z37 := Tryd.sizeOf22
  v37 := Tryd.zeroValue22
  t46 := Tryd.underlying98
  a46 := Tryd.isAgg98
  z46 := Tryd.sizeOf98
  v46 := Tryd.zeroValue98
  t51 := Tryd.underlying107
  a51 := Tryd.isAgg107
  z51 := Tryd.sizeOf107
  v51 := Tryd.zeroValue107
  t53 := Tryd.underlying92
  a53 := Tryd.isAgg92
  z53 := Tryd.sizeOf92
  v53 := Tryd.zeroValue92
  t75 := Tryd.underlying64
  a75 := Tryd.isAgg64
  z75 := Tryd.sizeOf64
  v75 := Tryd.zeroValue64
  t85 := Tryd.underlying78
  a85 := Tryd.isAgg78
  z85 := Tryd.sizeOf78
  v85 := Tryd.zeroValue78
  t127 := Tryd.underlying75
  a127 := Tryd.isAgg75
  z127 := Tryd.sizeOf75
  v127 := Tryd.zeroValue75
  t143 := Tryd.underlying123
  a143 := Tryd.isAgg123
  z143 := Tryd.sizeOf123
  v143 := Tryd.zeroValue123
  t145 := Tryd.underlying125
  a145 := Tryd.isAgg125
  z145 := Tryd.sizeOf125
  v145 := Tryd.zeroValue125
  t167 := Tryd.underlying99
  a167 := Tryd.isAgg99
  z167 := Tryd.sizeOf99
  v167 := Tryd.zeroValue99
  t168 := Tryd.underlying102
  a168 := Tryd.isAgg102
  z168 := Tryd.sizeOf102
  v168 := Tryd.zeroValue102
  t171 := Tryd.underlying91
  a171 := Tryd.isAgg91
  z171 := Tryd.sizeOf91
  v171 := Tryd.zeroValue91
  t173 := Tryd.underlying95
  a173 := Tryd.isAgg95
  z173 := Tryd.sizeOf95
  v173 := Tryd.zeroValue95
  t175 := Tryd.underlying100
  a175 := Tryd.isAgg100
  z175 := Tryd.sizeOf100
  v175 := Tryd.zeroValue100
  t210 := Tryd.underlying120
  a210 := Tryd.isAgg120
  z210 := Tryd.sizeOf120
  v210 := Tryd.zeroValue120
  t212 := Tryd.underlying106
  a212 := Tryd.isAgg106
  z212 := Tryd.sizeOf106
  v212 := Tryd.zeroValue106
  t213 := Tryd.underlying108
  a213 := Tryd.isAgg108
  z213 := Tryd.sizeOf108
  t232 := Tryd.underlying126
  a232 := Tryd.isAgg126
  z232 := Tryd.sizeOf126
  v232 := Tryd.zeroValue126
  t233 := Tryd.underlying127
  a233 := Tryd.isAgg127
  z233 := Tryd.sizeOf127
  v233 := Tryd.zeroValue127
  g15 := by kernel_rfl
  g16 := by kernel_rfl
  g17 := by kernel_rfl
  g18 := by kernel_rfl
  g19 := by kernel_rfl
  t80 := Tryd.underlying58
  a80 := Tryd.isAgg58
  z80 := Tryd.sizeOf58
  v80 := Tryd.zeroValue58
  i0 := by kernel_rfl
  i2 := by kernel_rfl
  i3 := by kernel_rfl
  i4 := by kernel_rfl
  i5 := by kernel_rfl
  i9 := by kernel_rfl
  i20 := by kernel_rfl
  i21 := by kernel_rfl
  i37 := by kernel_rfl
  i46 := by kernel_rfl
  i51 := by kernel_rfl
  i53 := by kernel_rfl
  i75 := by kernel_rfl
  i80 := by kernel_rfl
  i85 := by kernel_rfl
  i127 := by kernel_rfl
  i143 := by kernel_rfl
  i145 := by kernel_rfl
  i167 := by kernel_rfl
  i168 := by kernel_rfl
  i171 := by kernel_rfl
  i173 := by kernel_rfl
  i175 := by kernel_rfl
  i210 := by kernel_rfl
  i212 := by kernel_rfl
  i232 := by kernel_rfl
  i233 := by kernel_rfl
  m15 := by kernel_rfl
  m16 := by kernel_rfl
  m17 := by kernel_rfl
  m18 := by kernel_rfl
  m19 := by kernel_rfl
  c0 := by kernel_rfl
  c2 := by kernel_rfl
  c3 := by kernel_rfl
  c4 := by kernel_rfl
  c5 := by kernel_rfl
  c9 := by kernel_rfl
  c20 := by kernel_rfl
  c21 := by kernel_rfl
  c37 := by kernel_rfl
  c46 := by kernel_rfl
  c51 := by kernel_rfl
  c53 := by kernel_rfl
  c75 := by kernel_rfl
  c80 := by kernel_rfl
  c85 := by kernel_rfl
  c127 := by kernel_rfl
  c143 := by kernel_rfl
  c145 := by kernel_rfl
  c167 := by kernel_rfl
  c168 := by kernel_rfl
  c171 := by kernel_rfl
  c173 := by kernel_rfl
  c175 := by kernel_rfl
  c210 := by kernel_rfl
  c212 := by kernel_rfl
  c213 := by kernel_rfl
  c232 := by kernel_rfl
  c233 := by kernel_rfl }
open Go.RowKit in
theorem Tryd.strconv_ParseInt_10_at64_ok (s : ByteArray) (hmax : s.size ≤ 9223372036854775806) (v : Int) (h : Lib.parseIntB 64 s.data.toList = .ok v) (w : World) :
    Calls Tryd.prog 62 #[.string s, .int .i64 10, .int .i64 64] w fun e w' => e = .returned (.tuple #[.int .i64 v, .nilIface]) ∧ (w' = w ∨ ∃ t, w' = Lib.bytesWorld w 5 t) := Any.strconv_ParseInt_10_at64_ok Tryd.laysC174 s hmax v h w
open Go.RowKit in
theorem Tryd.strconv_ParseInt_10_at64_syntax_var (s : ByteArray) (hlim : s.size ≤ 281474976710656) (h : Lib.parseIntB 64 s.data.toList = .syntax) (tp : TypeId) (p : Value) (w : World) (hvar : w.var? Tryd.prog "strconv.ErrSyntax" = some #[.iface tp p]) :
    Calls Tryd.prog 62 #[.string s, .int .i64 10, .int .i64 64] w fun e w' => ∃ N, e = .returned (.tuple #[.int .i64 (0), .iface 102 (.pointer (some ⟨N, 0, none⟩))]) ∧ w.heap.size ≤ N ∧ w'.heap[N]? = some (.cells #[.string ⟨#[80, 97, 114, 115, 101, 73, 110, 116]⟩, .string s, .iface tp p] 120 (0, 0)) ∧ Below w.heap.size w w' := Any.strconv_ParseInt_10_at64_syntax_var Tryd.laysC174 s hlim h tp p w hvar
open Go.RowKit in
theorem Tryd.strconv_ParseInt_10_at64_range_var (s : ByteArray) (hlim : s.size ≤ 281474976710656) (h : Lib.parseIntB 64 s.data.toList = .range) (tp : TypeId) (p : Value) (w : World) (hvar : w.var? Tryd.prog "strconv.ErrRange" = some #[.iface tp p]) :
    Calls Tryd.prog 62 #[.string s, .int .i64 10, .int .i64 64] w fun e w' => ∃ N, e = .returned (.tuple #[.int .i64 (Lib.intSat 64 s.data.toList), .iface 102 (.pointer (some ⟨N, 0, none⟩))]) ∧ w.heap.size ≤ N ∧ w'.heap[N]? = some (.cells #[.string ⟨#[80, 97, 114, 115, 101, 73, 110, 116]⟩, .string s, .iface tp p] 120 (0, 0)) ∧ Below w.heap.size w w' := Any.strconv_ParseInt_10_at64_range_var Tryd.laysC174 s hlim h tp p w hvar
end Go.Proofs
