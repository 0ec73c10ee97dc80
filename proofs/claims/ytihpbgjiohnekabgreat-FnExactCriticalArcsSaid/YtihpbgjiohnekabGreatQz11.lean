/- Texts laid together: Ndm, Rbt, MatH, Hv3, Scp, Upp, Pck, Cmc. -/
import Derived.Test.YtihpbgjiohnekabGreatQz10
import Derived.Test.YtihpbgjiohnekabGreatQz4
import Derived.Test.YtihpbgjiohnekabGreatQz7
import Derived.Test.YtihpbgjiohnekabGreatQz3
import Derived.Test.YtihpbgjiohnekabGreatQz5
import Derived.Test.YtihpbgjiohnekabGreatQz1
import Derived.Test.YtihpbgjiohnekabGreatRows
import Derived.WalkKit
import Derived.ProofKit
import Derived.WalkSmall
import Derived.Lib.Hide
import Derived.Deep.OwnRows
import Derived.Maps.AppendAt
import Derived.Test.YtihpbgjiohnekabGreatQz6
set_option linter.unusedSimpArgs false
set_option linter.unusedVariables false
set_option linter.unusedSectionVars false
namespace Go.Proofs.YtihpbgjiohnekabGreat
namespace M
/-- The first nodes of the first k arcs, each once. -/
def ndK (R : List (List Int)) : Nat → List Int
  | 0 => []
  | k + 1 => if hasB (ndK R k) (((arcsL R).getD k []).getD 0 0) then ndK R k else ndK R k ++ [((arcsL R).getD k []).getD 0 0]
theorem ndK_len (R : List (List Int)) (k : Nat) : (ndK R k).length ≤ k := by
  induction k with
  | zero => exact Nat.le_refl _
  | succ k ih =>
    unfold ndK
    split
    · omega
    · rw [List.length_append]; simp; omega
/-- The arcs are sorted by their first nodes. -/
theorem arcs_sorted (R : List (List Int)) : (arcsL R).Pairwise (fun x y => x.getD 0 0 ≤ y.getD 0 0) := by
  have hrow : ∀ j k, (∀ l, l ∈ arcRow R j k → l.getD 0 0 = (j : Int)) := fun j k l hl => by
    unfold arcRow at hl
    obtain ⟨i, -, hi⟩ := List.mem_flatMap.1 hl
    split at hi
    · rw [List.mem_singleton.1 hi]; rfl
    · exact absurd hi (List.not_mem_nil)
  have key : ∀ k, (arcsP R k).Pairwise (fun x y => x.getD 0 0 ≤ y.getD 0 0) ∧ ∀ l, l ∈ arcsP R k → l.getD 0 0 < (k : Int) := fun k => by
    induction k with
    | zero => exact ⟨by simp [arcsP], fun l h => by simp [arcsP] at h⟩
    | succ k ih =>
      rw [arcsP_next]
      refine ⟨List.pairwise_append.2 ⟨ih.1, ?_, fun x hx y hy => ?_⟩, fun l hl => ?_⟩
      · refine List.pairwise_iff_getElem.2 fun i j hi hj _ => ?_
        rw [hrow k R.length _ (List.getElem_mem hi), hrow k R.length _ (List.getElem_mem hj)]
        exact Int.le_refl _
      · have := ih.2 x hx; rw [hrow k R.length y hy]; omega
      · rcases List.mem_append.1 hl with h | h
        · have := ih.2 l h; omega
        · rw [hrow k R.length l h]; omega
  exact (key R.length).1
theorem getD_at {L : List (List Int)} {k : Nat} (h : k < L.length) : L.getD k [] = L[k] := by
  rw [List.getD_eq_getElem?_getD, List.getElem?_eq_getElem h, Option.getD_some]
theorem ndK_t (R : List (List Int)) (k : Nat) (hk : k ≤ (arcsL R).length) : (ndK R k).Pairwise (fun x y => x < y) ∧ ∀ x, x ∈ ndK R k ↔ ∃ j, j < k ∧ ((arcsL R).getD j []).getD 0 0 = x := by
  induction k with
  | zero => exact ⟨List.Pairwise.nil, fun x => ⟨fun h => absurd h (List.not_mem_nil), fun ⟨j, hj, _⟩ => absurd hj (Nat.not_lt_zero j)⟩⟩
  | succ k ih =>
    obtain ⟨i1, i2⟩ := ih (by omega)
    have hle : ∀ x, x ∈ ndK R k → x ≤ ((arcsL R).getD k []).getD 0 0 := fun x hx => by
      obtain ⟨j, hj, e⟩ := (i2 x).1 hx
      have := List.pairwise_iff_getElem.1 (arcs_sorted R) j k (by omega) (by omega) hj
      rw [← getD_at (by omega), ← getD_at (by omega), e] at this
      exact this
    unfold ndK
    by_cases h : hasB (ndK R k) (((arcsL R).getD k []).getD 0 0) = true
    · rw [if_pos h]
      refine ⟨i1, fun x => (i2 x).trans ⟨fun ⟨j, hj, e⟩ => ⟨j, by omega, e⟩, fun ⟨j, hj, e⟩ => ?_⟩⟩
      by_cases hjk : j < k
      · exact ⟨j, hjk, e⟩
      · obtain rfl : j = k := by omega
        rw [← e]
        exact (i2 _).1 (hasB_iff.1 h)
    · rw [if_neg h]
      have hn := fun hm => h (hasB_iff.2 hm)
      refine ⟨List.pairwise_append.2 ⟨i1, List.pairwise_singleton .., fun x hx y hy => ?_⟩, fun x => ?_⟩
      · rw [List.mem_singleton.1 hy]
        have h1 := hle x hx
        have h2 : x ≠ ((arcsL R).getD k []).getD 0 0 := fun e => hn (e ▸ hx)
        omega
      · rw [List.mem_append, i2 x, List.mem_singleton]
        constructor
        · rintro (⟨j, hj, e⟩ | e)
          · exact ⟨j, by omega, e⟩
          · exact ⟨k, by omega, e.symm⟩
        · rintro ⟨j, hj, e⟩
          by_cases hjk : j < k
          · exact .inl ⟨j, hjk, e⟩
          · obtain rfl : j = k := by omega
            exact .inr e.symm
theorem ndK_end (R : List (List Int)) : ndK R (arcsL R).length = nodesL R := by
  obtain ⟨h1, h2⟩ := ndK_t R _ (Nat.le_refl _)
  refine uniq_lt h1 (nodesL_lt R) fun x => ?_
  rw [h2, mem_nodesL]
  unfold crN
  constructor
  · rintro ⟨j, hj, e⟩
    obtain ⟨f, t, hf, ht, hc, he⟩ := arcsL_at hj
    rw [he] at e
    exact ⟨f, hf, List.any_eq_true.2 ⟨t, List.mem_range.2 ht, hc⟩, e.symm⟩
  · rintro ⟨f, hf, hc, rfl⟩
    obtain ⟨t, ht, hc⟩ := List.any_eq_true.1 hc
    obtain ⟨k, hk, e⟩ := List.mem_iff_getElem.1 (mem_arcsL.2 ⟨f, t, hf, List.mem_range.1 ht, hc, rfl⟩ : [(f : Int), (t : Int)] ∈ arcsL R)
    exact ⟨k, hk, by rw [getD_at hk, e]; rfl⟩
theorem nodesRes_len (R : List (List Int)) : (nodesRes R).1.length ≤ 10 := by
  unfold nodesRes
  by_cases h : crCode R = 0
  · rw [if_pos h]
    obtain ⟨-, n2, -⟩ := sq_sm (cr_code h).1
    exact Nat.le_trans (nodesL_len R) n2
  · rw [if_neg h]; simp
end M
namespace V
set_option maxRecDepth 100000
open Go.RowKit
set_option maxRecDepth 100000 in
set_option maxHeartbeats 4000000 in
theorem sNodes6 (a : Option Addr) (n cap : Nat) (R : List (List Int)) (w : World) (h : Mat w a n R) (hs : M.sqB R = true) (hc : M.hasCyc (M.ent R) R.length = true) :
    Calls Tryz.prog 113 #[.slice a n cap] w fun e w' => ∃ b c, e = .returned (.slice b (M.nodesL R).length c) ∧ Own w' w.heap.size (.slice b (M.nodesL R).length c) (M.nodesL R) ∧ Below w.heap.size w w' := by
  have HA := Lib.hid h
  have HRn := Lib.hid h.1
  have HS := Lib.hid hs
  have HC := Lib.hid hc
  obtain ⟨hr, n1, n2, -⟩ := sq_parts h hs
  have HLn := Lib.hid (M.arcsL_len R (by rw [h.1]; exact n2))
  clear h hs hc hr
  go_enter Tryz.func113, Tryz.ntmps113
  go_wp2_with fail
  refine (sArcs _ _ _ R _ HA.out HS.out HC.out).mono ?_
  rintro e w2 ⟨b2, c2, rfl, ho, hb⟩
  have HL2 := Lib.hid ho
  have HB2 := Lib.hid hb
  clear ho hb
  go_wp2
  go_loopw [4, 5] (fun o kv wr => ∃ (k : Nat) (b : Option Addr) (c : Nat), k ≤ (M.arcsL R).length ∧ kv = .int .i64 k ∧ o = .slice b (M.ndK R k).length c ∧ Hid (Own wr w2.heap.size (.slice b (M.ndK R k).length c) (M.ndK R k)) ∧ Hid (Below w2.heap.size w2 wr)) (fun _ kv _ => (M.arcsL R).length - (intOf kv).toNat)
  case atStart => exact ⟨0, _, _, Nat.zero_le _, rfl, rfl, own_lit0 _ _ (Nat.le_refl _), b_alloc _ _⟩
  case round =>
    obtain ⟨k, b, c, hk, rfl, rfl, HO, HB⟩ := hrel
    by_cases hkl : k < (M.arcsL R).length
    · have hki : (k : Int) < ((M.arcsL R).length : Int) := by omega
      obtain ⟨j, i, hj, hi, hcr, he⟩ := M.arcsL_at hkl
      have hlen := HLn.out
      have hnl := M.ndK_len R k
      obtain ⟨g2, q2, L2, d2, x0, hgg, -, -, hL2, hx0, r1, r2, -⟩ := (HL2.out.below HB.out).at k 0 hkl (by rw [he]; simp)
      subst hgg
      have hnx : M.ndK R (k + 1) = if M.hasB (M.ndK R k) x0 then M.ndK R k else M.ndK R k ++ [x0] := by rw [hx0]; rfl
      rw [he] at hL2 hx0
      have hL2' : L2 = 2 := hL2
      subst hL2'
      have HI := Lib.hid HO.out.ints'
      obtain ⟨hb, hhb⟩ : ∃ hb, hb = M.hasB (M.ndK R k) x0 := ⟨_, rfl⟩
      rw [← hhb] at hnx
      have HH := Lib.hid hhb
      clear hL2 hx0 he hcr hhb
      generalize (M.arcsL R).length = N at *
      generalize hnd : M.ndK R k = l at *
      clear hnd
      cases hb with
      | true =>
        have HN : Hid (M.ndK R (k + 1) = l) := hnx
        clear hnx
        go_wp2_with (go_at_call 176; refine (sHas _ _ _ l _ _ (by exact HI.out)).mono ?_; rintro e w' ⟨rfl, rfl⟩; rw [← HH.out])
        go_roundw
        case rel => exact ⟨k + 1, b, c, by omega, by go_num, by rw [HN.out], by show Own _ _ _ _; rw [HN.out]; exact HO.out, HB⟩
        case measure => simp [intOf]; omega
      | false =>
        have HN : Hid (M.ndK R (k + 1) = l ++ [x0]) := hnx
        clear hnx
        go_wp2_with (first | (go_at_call 176; refine (sHas _ _ _ l _ _ (by exact HI.out)).mono ?_; rintro e w' ⟨rfl, rfl⟩; rw [← HH.out]) | (at_builtin; refine append1 _ rfl (.tmp 24) (.tmp 31) rfl w2.heap.size _ l x0 _ rfl rfl HO.out rfl (by omega) HB.out.size ?_))
        intro b4 c4 w4 hO4 hb4 _
        have HO4 := Lib.hid hO4
        have HB4 := Lib.hid (HB.out.trans hb4)
        rw [← HN.out] at HO4
        clear hO4 hb4
        go_wp2
        go_roundw
        case rel => exact ⟨k + 1, b4, c4, by omega, by go_num, by rw [HN.out, List.length_append]; rfl, by show Own _ _ _ _; rw [HN.out, List.length_append]; rw [HN.out] at HO4; exact HO4.out, HB4⟩
        case measure => simp [intOf]; omega
    · obtain rfl : k = (M.arcsL R).length := by omega
      have HN : Hid (M.ndK R (M.arcsL R).length = M.nodesL R) := M.ndK_end R
      have HO2 : Hid (Own wr w2.heap.size (.slice b (M.nodesL R).length c) (M.nodesL R)) := by show Own _ _ _ _; rw [← HN.out]; exact HO.out
      rw [HN.out]
      clear HO
      go_wp2
      go_ret
      exact ⟨b, c, rfl, HO2.out.mono HB2.out.size, HB2.out.trans (HB.out.mono HB2.out.size)⟩
set_option maxRecDepth 100000 in
set_option maxHeartbeats 1000000 in
theorem sCriticalNodes (a : Option Addr) (n cap : Nat) (R : List (List Int)) (w : World) (h : Mat w a n R) :
    Calls Tryz.prog 42 #[.slice a n cap] w (VRes (M.nodesRes R) w) := by
  have HA := Lib.hid h
  by_cases hc : M.crCode R = 0
  · obtain ⟨h1, h2⟩ := M.cr_code hc
    have H1 := Lib.hid h1
    have H2 := Lib.hid h2
    have HK := Lib.hid hc
    have HE : Hid (M.nodesRes R = (M.nodesL R, 0)) := by show _ = _; unfold M.nodesRes; rw [if_pos hc]
    clear h hc h1 h2
    go_enter Tryz.func42, Tryz.ntmps42
    go_wp2_with fail
    refine (sCode _ _ _ R _ HA.out).mono ?_
    rintro e w1 ⟨rfl, hb⟩
    rw [HK.out]
    have HB := Lib.hid hb
    clear hb
    go_wp2_with fail
    refine (sNodes6 _ _ _ R _ (HA.out.below HB.out) H1.out H2.out).mono ?_
    rintro e w2 ⟨b2, c2, rfl, ho, hb⟩
    have HO := Lib.hid (ho.mono HB.out.size)
    have HB2 := Lib.hid (HB.out.trans (hb.mono HB.out.size))
    clear ho hb
    go_wp2
    go_ret2
    rw [HE.out]
    exact ⟨_, _, _, rfl, HO.out, HB2.out⟩
  · obtain ⟨k, hk⟩ : ∃ k, k = M.crCode R := ⟨_, rfl⟩
    have HE : Hid (M.nodesRes R = ([], k)) := by show _ = _; unfold M.nodesRes; rw [if_neg hc, hk]
    have HK := Lib.hid hk
    have hk0 : (k != 0) = true := by rw [hk]; simpa using hc
    clear h hc hk
    go_enter Tryz.func42, Tryz.ntmps42
    go_wp2_with fail
    refine (sCode _ _ _ R _ HA.out).mono ?_
    rintro e w1 ⟨rfl, hb⟩
    rw [← HK.out]
    have HB := Lib.hid hb
    clear hb
    go_wp2
    go_ret2
    exact VRes.nil HE.out HB.out
end V
end Go.Proofs.YtihpbgjiohnekabGreat

namespace Go.Proofs.YtihpbgjiohnekabGreat
namespace M
variable {A : Nat → Nat → Int} {n : Nat}
/-- After r rounds. -/
def RI (A : Nat → Nat → Int) (n v r : Nat) (S : Nat → Bool) : Prop := (∀ i, S i = true → Rch A n v i) ∧ ∀ i, RcN A n v r i → S i = true
def MI (A : Nat → Nat → Int) (n v r i : Nat) (S : Nat → Bool) : Prop := RI A n v r S ∧ ∀ j, j < i → RcN A n v (r + 1) j → S j = true
def KI (A : Nat → Nat → Int) (n v r i k : Nat) (S : Nat → Bool) : Prop := MI A n v r i S ∧ ∀ j, j < k → RcN A n v r j → A i j ≠ -1000000000000000 → S i = true
theorem ri_start {v : Nat} (hv : v < n) : RI A n v 0 (upd (fun _ => false) v) :=
  ⟨fun i h => by unfold upd at h; simp at h; subst h; exact rch_self hv, fun i h => by have := rcn_zero h; subst this; unfold upd; simp⟩
theorem ki_set {v r i k : Nat} {S : Nat → Bool} (hi : i < n) (h : KI A n v r i k S) (hs : S k = true) (ha : A i k ≠ -1000000000000000) : KI A n v r i (k + 1) (upd S i) := by
  obtain ⟨⟨⟨h1, h2⟩, h3⟩, h4⟩ := h
  have hm : ∀ j, S j = true → upd S i j = true := fun j hj => by unfold upd; rw [hj, Bool.or_true]
  refine ⟨⟨⟨fun j hj => ?_, fun j hj => hm j (h2 j hj)⟩, fun j hj hr => hm j (h3 j hj hr)⟩, fun j _ _ _ => by unfold upd; simp⟩
  unfold upd at hj
  rw [Bool.or_eq_true, decide_eq_true_eq] at hj
  rcases hj with hj | hj
  · subst hj; exact rch_step (h1 k hs) hi ha
  · exact h1 j hj
theorem ki_skip {v r i k : Nat} {S : Nat → Bool} (h : KI A n v r i k S) (hs : S k = false ∨ A i k = -1000000000000000) : KI A n v r i (k + 1) S := by
  refine ⟨h.1, fun j hj hr ha => ?_⟩
  by_cases e : j = k
  · subst e
    rcases hs with hs | hs
    · rw [h.1.1.2 j hr] at hs; cases hs
    · exact absurd hs ha
  · exact h.2 j (by omega) hr ha
theorem ki_end {v r i : Nat} {S : Nat → Bool} (h : KI A n v r i n S) : MI A n v r (i + 1) S := by
  refine ⟨h.1.1, fun j hj hr => ?_⟩
  by_cases e : j = i
  · subst e
    rcases rcn_next hr with q | ⟨k, hk, q1, -, q2⟩
    · exact h.1.1.2 j q
    · exact h.2 k hk q1 q2
  · exact h.1.2 j (by omega) hr
theorem mi_end {v r : Nat} {S : Nat → Bool} (h : MI A n v r n S) : RI A n v (r + 1) S := ⟨h.1.1, fun i hr => h.2 i (Rch.of hr).lt.2 hr⟩
end M
namespace V
set_option maxRecDepth 100000
open Go.RowKit
theorem infoB1 : (Tryz.prog.info? 4).map (fun i => (i.zero, i.size, i.bytes)) = some (some (.bool false), 1, 1) := by kernel_rfl
theorem infoB : (Tryz.prog.info? 177).map (fun i => (i.zero, i.size, i.bytes)) = some (some (.slice none 0 0), 1, 24) := by kernel_rfl
/-- A table of bools, a row a block. -/
def BT (w : World) (B : Nat) (v : Value) (k n : Nat) (F : Nat → Nat → Bool) : Prop :=
  ∃ V : List Value, V.length = k ∧ w.ownsRow B 177 1 v k V ∧ ∀ i, i < k → ∃ q, B ≤ q ∧ v.ownBlock ≠ some q ∧ V.getD i undef = .slice (some ⟨q, 0, none⟩) n n ∧ w.rowIs q 4 n (fun j => .bool (F i j))
theorem rowIs_lt {w : World} {q n : Nat} {t : TypeId} {f : Nat → Value} (h : w.rowIs q t n f) : q < w.heap.size := by
  obtain ⟨c, hb, -⟩ := h
  exact (Array.getElem?_eq_some_iff.1 hb).1
theorem BT.below {w w' : World} {B k n : Nat} {v : Value} {F : Nat → Nat → Bool} (h : BT w B v k n F) (hb : Below w.heap.size w w') : BT w' B v k n F := by
  obtain ⟨V, h1, h2, h3⟩ := h
  refine ⟨V, h1, ownsRow_keep h2 (fun q hq => hb.block q (own_lt h2 hq).2), fun i hi => ?_⟩
  obtain ⟨q, k1, k2, k3, k4⟩ := h3 i hi
  exact ⟨q, k1, k2, k3, World.rowIs.of_block k4 (hb.block q (rowIs_lt k4))⟩
theorem BT.mono {w : World} {B B' k n : Nat} {v : Value} {F : Nat → Nat → Bool} (h : BT w B v k n F) (hb : B' ≤ B) : BT w B' v k n F := by
  obtain ⟨V, h1, h2, h3⟩ := h
  refine ⟨V, h1, World.ownsRow.mono h2 hb, fun i hi => ?_⟩
  obtain ⟨q, k1, k2, k3, k4⟩ := h3 i hi
  exact ⟨q, by omega, k2, k3, k4⟩
theorem bt_lit (w : World) (B n : Nat) (F : Nat → Nat → Bool) (hB : B ≤ w.heap.size) : BT (w.alloc (.cells #[] 177)) B (.slice (some ⟨w.heap.size, 0, none⟩) 0 0) 0 n F :=
  ⟨[], rfl, World.ownsRow_lit w #[] 0 hB (by decide) rfl, fun i hi => absurd hi (Nat.not_lt_zero i)⟩
/-- A row and an entry. -/
theorem BT.at {w : World} {B k n cap : Nat} {a : Option Addr} {F : Nat → Nat → Bool} (h : BT w B (.slice a k cap) k n F) (i j : Nat) (hi : i < k) (hj : j < n) :
    ∃ g q, a = some ⟨g, 0, none⟩ ∧ w.cell? ⟨g, i, none⟩ = some (.slice (some ⟨q, 0, none⟩) n n) ∧ w.cell? ⟨q, j, none⟩ = some (.bool (F i j)) := by
  obtain ⟨V, h1, h2, h3⟩ := h
  obtain ⟨q, -, -, e, hq⟩ := h3 i hi
  obtain ⟨a', c', hv, -, -, hg⟩ := own_form h2
  injection hv with e1 _ e3
  subst e1 e3
  obtain ⟨g, rfl, -, -⟩ := hg (by omega)
  refine ⟨g, q, rfl, ?_, World.rowIs.cell hq hj⟩
  have := World.ownsRow.cellAt h2 i (by omega)
  rw [this, ← e, List.getD_eq_getElem?_getD, List.getElem?_eq_getElem (by omega)]
  rfl
theorem appendB (w0 w : World) {ops : Array Oper} {rest : List Oper} {o : Oper} {a : Act} {Q : Exit → Act → World → Prop} (hgd : o.guard = none) (s x : Operand)
    (ho : o.op = .call { callee := .builtin .append, args := #[s, x], argTypes := #[175, 175] }) (B : Nat) (v : Value) (k n q : Nat) (F : Nat → Nat → Bool) (hs : a.eval s = v) (hown : BT w0 B v k n F) (hb : Below w0.heap.size w0 w) (hq : w0.heap.size ≤ q) (hro : w.rowIs q 4 n (fun j => .bool (F k j)))
    (hx : a.eval x = .slice (some ⟨w.heap.size, 0, none⟩) 1 1) (hlen : k ≤ 2000000) (hB : B ≤ w0.heap.size)
    (h : ∀ b' c' w', BT w' B (.slice b' (k + 1) c') (k + 1) n F → Below B w w' → wpList Tryz.prog ops Q rest (a.put o.dst (.slice b' (k + 1) c')) w') :
    wpList Tryz.prog ops Q (o :: rest) a (w.alloc (.cells #[.slice (some ⟨q, 0, none⟩) n n] 177)) := by
  obtain ⟨i0, hi, hz0, hz1, hz2⟩ := info_parts infoB
  have hsz := hb.size
  obtain ⟨V, h1, h2, h3⟩ := hown
  have hwV : w.ownsRow B 177 1 v k V := ownsRow_keep h2 (fun k hv => hb.block k (own_lt h2 hv).2)
  have hown2 : (w.alloc (.cells #[.slice (some ⟨q, 0, none⟩) n n] 177)).ownsRow B 177 1 v k V := World.ownsRow.alloc hwV _
  refine wpList_append_own_at (w := w.alloc (.cells #[.slice (some ⟨q, 0, none⟩) n n] 177)) hgd s x 175 ho B 177 i0 (.slice none 0 0) 1 24 Tryz.underlying175 hi hz0 hz1 hz2 rfl (by decide) v _ _ hs hown2 ⟨w.heap.size, 0, none⟩ 1 1 [.slice (some ⟨q, 0, none⟩) n n] hx rfl (cell_one_new _ _ _) ?c2 ?c3 ?c4 ?c5 ?_
  case c2 => intro u hu; simp at hu; subst hu; rfl
  case c3 => unfold maxLen; omega
  case c4 => omega
  case c5 => simp; omega
  · intro v' w' hownV' hgrow hz hvb
    obtain ⟨g1, g2, g3, g4, g5⟩ := hgrow
    have hg : ∀ k, k < w.heap.size → v.ownBlock ≠ some k → w'.heap[k]? = w.heap[k]? := fun k hk hne => by
      rw [g5 k (by simp; omega) (fun e => hne e.symm), Below.heap_alloc _ _ _ hk]
    have hqw := rowIs_lt hro
    have hvq : v.ownBlock ≠ some q := fun e => by have := (own_lt h2 e).2; omega
    have hv'q : ∀ p, p < w.heap.size → v.ownBlock ≠ some p → v'.ownBlock ≠ some p := fun p hp hne e => by
      rcases hvb with k | k
      · exact hne (k ▸ e)
      · rw [k] at e; injection e with e; simp at e; omega
    have hM : BT w' B v' (k + 1) n F := by
      refine ⟨_, by simp [h1], hownV', fun i hi => ?_⟩
      by_cases e : i = k
      · subst e
        refine ⟨q, by omega, hv'q q hqw hvq, ?_, World.rowIs.of_block hro (hg q hqw hvq)⟩
        rw [List.getD_eq_getElem?_getD, List.getElem?_append_right (by omega), h1, Nat.sub_self]; rfl
      · obtain ⟨p, k1, k2, k3, k4⟩ := h3 i (by omega)
        have hp := rowIs_lt k4
        refine ⟨p, k1, hv'q p (by omega) k2, ?_, World.rowIs.of_block k4 ((hg p (by omega) k2).trans (hb.block p hp))⟩
        rw [List.getD_eq_getElem?_getD, List.getElem?_append_left (by omega), ← List.getD_eq_getElem?_getD]; exact k3
    obtain ⟨b', c', hv', _⟩ := own_form hownV'
    subst hv'
    exact h b' c' w' hM (((Below.refl B w).alloc (by omega) _).grown ⟨g1, g2, g3, g4, g5⟩ (by simp; omega) (fun k hk => (own_lt h2 hk).1))
set_option maxRecDepth 100000 in
set_option maxHeartbeats 4000000 in
theorem sReach (a : Option Addr) (n cap : Nat) (R : List (List Int)) (w : World) (h : Sq w a n R) :
    Calls Tryz.prog 205 #[.slice a n cap] w fun e w' => ∃ b c, e = .returned (.slice b n c) ∧ BT w' w.heap.size (.slice b n c) n n (M.rchB (M.ent R) n) ∧ Below w.heap.size w w' := by
  have HSq := Lib.hid h
  obtain ⟨n1, n2⟩ := h.2.2.2
  obtain ⟨ab, aoff, -, -, rfl, -, -⟩ := h.1.rect_first h.2.1 n1
  have hmk := run_make_row' (P := Tryz.prog) 177 4 (.bool false) 1 Tryz.underlying177 infoB1 rfl .i64 .i64 n (by omega) (by omega)
  clear h
  go_enter Tryz.func205, Tryz.ntmps205
  go_wp2
  go_loopw [4, 5, 6, 7, 8, 9] (fun o i _ _ _ _ wr => ∃ (k : Nat) (b : Option Addr) (c : Nat), k ≤ n ∧ i = .int .i64 k ∧ o = .slice b k c ∧ Hid (BT wr w.heap.size (.slice b k c) k n (M.rchB (M.ent R) n)) ∧ Hid (Below w.heap.size w wr)) (fun _ i _ _ _ _ _ => n - (intOf i).toNat)
  case atStart => exact ⟨0, _, 0, Nat.zero_le _, rfl, rfl, bt_lit _ _ _ _ (Nat.le_refl _), b_alloc _ _⟩
  case round =>
    obtain ⟨v, b, c, hv, rfl, rfl, HO, HB⟩ := hrel
    obtain ⟨wo, rfl⟩ : ∃ x, x = wr := ⟨_, rfl⟩
    by_cases hlt : v < n
    · have hvi : (v : Int) < (n : Int) := by omega
      obtain ⟨w1, hw1⟩ : ∃ x, x = wo.alloc (.cells (madeCells #[.bool false] n) 4) := ⟨_, rfl⟩
      have hrow : w1.rowIs wo.heap.size 4 n (fun _ => .bool false) := by rw [hw1]; exact World.rowIs_made _ _ _ _
      have hb1 : Below wo.heap.size wo w1 := by rw [hw1]; exact b_alloc _ _
      have hcv := World.rowIs.cell hrow hlt
      have hfv := World.rowIs.frozen hrow v
      have hset := (World.rowIs.set hrow v (.bool true)).congr (g := fun j => .bool (M.upd (fun _ => false) v j)) fun i hi => by
        unfold M.upd
        by_cases e : i = v <;> simp [e]
      have he : w1.setCell ⟨wo.heap.size, v, none⟩ (.bool true) = wo.alloc (.cells ((madeCells #[.bool false] n).setIfInBounds v (.bool true)) 4) := by rw [hw1]; simp [go_sem]
      rw [he] at hset
      have hbs := hb1.setCell (p := ⟨wo.heap.size, v, none⟩) (Nat.le_refl _) (.bool true)
      rw [he] at hbs
      have HR0 := Lib.hid hset
      have HB0 := Lib.hid hbs
      subst hw1
      clear hrow hset hb1 hbs he
      go_wp2
      clear hcv hfv
      go_loopw [7, 8, 9] (fun t _ _ wr => ∃ (r : Nat) (S : Nat → Bool), r ≤ n ∧ t = .int .i64 r ∧ Hid (wr.rowIs wo.heap.size 4 n (fun j => .bool (S j))) ∧ Hid (Below wo.heap.size wo wr) ∧ Hid (M.RI (M.ent R) n v r S)) (fun t _ _ _ => n - (intOf t).toNat)
      case atStart => exact ⟨0, _, Nat.zero_le _, rfl, HR0, HB0, M.ri_start hlt⟩
      case round =>
        clear HR0 HB0
        obtain ⟨r, S, hr, rfl, HR, HBr, HI⟩ := hrel
        by_cases hrl : r < n
        · have hri : (r : Int) < (n : Int) := by omega
          have HI1 : Hid (M.MI (M.ent R) n v r 0 S) := ⟨HI.out, fun j hj => absurd hj (Nat.not_lt_zero j)⟩
          go_wp2
          go_loopw [8, 9] (fun t _ wr => ∃ (i : Nat) (S : Nat → Bool), i ≤ n ∧ t = .int .i64 i ∧ Hid (wr.rowIs wo.heap.size 4 n (fun j => .bool (S j))) ∧ Hid (Below wo.heap.size wo wr) ∧ Hid (M.MI (M.ent R) n v r i S)) (fun t _ _ => n - (intOf t).toNat)
          case atStart => exact ⟨0, S, Nat.zero_le _, rfl, HR, HBr, HI1⟩
          case round =>
            clear HR HBr HI HI1
            obtain ⟨i, S, hi, rfl, HR, HBr, HI⟩ := hrel
            by_cases hil : i < n
            · have hii : (i : Int) < (n : Int) := by omega
              have HI1 : Hid (M.KI (M.ent R) n v r i 0 S) := ⟨HI.out, fun j hj => absurd hj (Nat.not_lt_zero j)⟩
              go_wp2
              go_loopw [9] (fun t wr => ∃ (k : Nat) (S : Nat → Bool), k ≤ n ∧ t = .int .i64 k ∧ Hid (wr.rowIs wo.heap.size 4 n (fun j => .bool (S j))) ∧ Hid (Below wo.heap.size wo wr) ∧ Hid (M.KI (M.ent R) n v r i k S)) (fun t _ => n - (intOf t).toNat)
              case atStart => exact ⟨0, S, Nat.zero_le _, rfl, HR, HBr, HI1⟩
              case round =>
                clear HR HBr HI HI1
                obtain ⟨k, S, hk, rfl, HR, HBr, HI⟩ := hrel
                by_cases hkl : k < n
                · have hki : (k : Int) < (n : Int) := by omega
                  have hck := World.rowIs.cell HR.out hkl
                  have hci := World.rowIs.cell HR.out hil
                  have hfi := World.rowIs.frozen HR.out i
                  obtain ⟨d, od, rd, rdo, c4, z, hdd, hz, c41, c42⟩ := ((HSq.out.1.below HB.out).below HBr.out).rect_ent HSq.out.2.1 i k hil hkl
                  injection hdd with hdd
                  injection hdd with e1 e2
                  subst e1 e2
                  have HZ := Lib.hid hz
                  clear hz
                  cases e : S k with
                  | false =>
                    rw [e] at hck
                    have HI2 := Lib.hid (M.ki_skip HI.out (.inl e))
                    clear e
                    go_wp2
                    go_roundw
                    case rel => exact ⟨k + 1, S, by omega, by go_num, HR, HBr, HI2⟩
                    case measure => simp [intOf]; omega
                  | true =>
                    rw [e] at hck
                    by_cases hzb : z = -1000000000000000
                    · have HI2 := Lib.hid (M.ki_skip HI.out (.inr (by rw [← HZ.out]; exact hzb)))
                      have hz1 : (z != -1000000000000000) = false := by simp [hzb]
                      clear e hzb
                      go_wp2
                      go_roundw
                      case rel => exact ⟨k + 1, S, by omega, by go_num, HR, HBr, HI2⟩
                      case measure => simp [intOf]; omega
                    · have HI2 := Lib.hid (M.ki_set hil HI.out e (by rw [← HZ.out]; exact hzb))
                      have hz1 : (z != -1000000000000000) = true := by simpa using hzb
                      have HR2 : Hid ((wr.setCell ⟨wo.heap.size, i, none⟩ (.bool true)).rowIs wo.heap.size 4 n (fun j => .bool (M.upd S i j))) := (World.rowIs.set HR.out i (.bool true)).congr (g := fun j => .bool (M.upd S i j)) fun j hj => by
                        unfold M.upd
                        by_cases e : j = i <;> simp [e]
                      have HB2 := Lib.hid (HBr.out.setCell (p := ⟨wo.heap.size, i, none⟩) (Nat.le_refl _) (.bool true))
                      clear e hzb
                      go_wp2
                      go_roundw
                      case rel => exact ⟨k + 1, M.upd S i, by omega, by go_num, HR2, HB2, HI2⟩
                      case measure => simp [intOf]; omega
                · obtain rfl : k = n := by omega
                  go_wp2
                  go_roundw
                  case rel => exact ⟨i + 1, S, by omega, by go_num, HR, HBr, M.ki_end HI.out⟩
                  case measure => simp [intOf]; omega
            · obtain rfl : i = n := by omega
              go_wp2
              go_roundw
              case rel => exact ⟨r + 1, S, by omega, by go_num, HR, HBr, M.mi_end HI.out⟩
              case measure => simp [intOf]; omega
        · obtain rfl : r = n := by omega
          have HRr : Hid (wr.rowIs wo.heap.size 4 r (fun j => .bool (M.rchB (M.ent R) r v j))) := HR.out.congr fun j _ => by rw [M.rch_rounds HI.out.1 HI.out.2 j]
          go_wp2_with (at_builtin; refine appendB wo _ rfl (.tmp 55) (.tmp 57) rfl w.heap.size _ v r wo.heap.size (M.rchB (M.ent R) r) rfl HO.out HBr.out (Nat.le_refl _) HRr.out rfl (by omega) HB.out.size ?_)
          intro b4 c4 w4 hO4 hb4
          have HO4 := Lib.hid hO4
          have HB4 := Lib.hid ((HB.out.trans (HBr.out.mono HB.out.size)).trans hb4)
          clear hO4 hb4
          go_wp2
          go_roundw
          case rel => exact ⟨v + 1, b4, c4, by omega, by go_num, rfl, HO4, HB4⟩
          case measure => simp [intOf]; omega
    · obtain rfl : v = n := by omega
      go_wp2
      go_ret
      exact ⟨_, _, rfl, HO.out, HB.out⟩
end V
end Go.Proofs.YtihpbgjiohnekabGreat

namespace Go.Proofs.YtihpbgjiohnekabGreat
namespace M
/-- The least number from k on that fits, within so many. -/
def lv (p : Nat → Bool) : Nat → Nat → Nat
  | 0, k => k
  | f + 1, k => if p k then k else lv p f (k + 1)
theorem lv_is {p : Nat → Bool} {m : Nat} (hm : p m = true) (f : Nat) : ∀ k, k ≤ m → m < k + f → (∀ v, k ≤ v → v < m → p v = false) → lv p f k = m := by
  induction f with
  | zero => intro k h1 h2; omega
  | succ f ih =>
    intro k h1 h2 h3
    by_cases e : k = m
    · subst e; show (if p k then k else _) = _; rw [if_pos hm]
    · show (if p k then k else _) = _
      rw [h3 k (Nat.le_refl _) (by omega), if_neg (by simp)]
      exact ih (k + 1) (by omega) (by omega) fun v h4 h5 => h3 v (by omega) h5
theorem lv_ex {p : Nat → Bool} {n : Nat} (h : ∃ m, m < n ∧ p m = true) : p (lv p n 0) = true ∧ lv p n 0 < n ∧ ∀ v, v < lv p n 0 → p v = false := by
  have key : ∀ n, (∃ m, m < n ∧ p m = true) → ∃ m, m < n ∧ p m = true ∧ ∀ v, v < m → p v = false := by
    intro n
    induction n with
    | zero => rintro ⟨m, hm, _⟩; omega
    | succ n ih =>
      rintro ⟨m, hm, hp⟩
      by_cases e : ∃ m, m < n ∧ p m = true
      · obtain ⟨m, h1, h2, h3⟩ := ih e
        exact ⟨m, by omega, h2, h3⟩
      · refine ⟨m, hm, hp, fun v hv => ?_⟩
        cases h : p v with
        | false => rfl
        | true => exact absurd ⟨v, by omega, h⟩ e
  obtain ⟨m, h1, h2, h3⟩ := key n h
  rw [lv_is h2 n 0 (Nat.zero_le _) (by omega) fun v _ hv => h3 v hv]
  exact ⟨h2, h1, h3⟩
/-- Whether a heaviest path with s + 1 arcs goes on from x by v. -/
def stepB (A : Nat → Nat → Int) (n t s x v : Nat) : Bool := decide (times (cpw A n s t v) (A v x) = cpw A n (s + 1) t x)
def nxt (A : Nat → Nat → Int) (n t s x : Nat) : Nat := lv (stepB A n t s x) n 0
/-- The number of arcs. -/
def arcs (A : Nat → Nat → Int) (n f t : Nat) : Nat := lv (fun s => decide (cpw A n s t f = starF A n t f)) 11 0
/-- The nodes of the path. -/
def xs (A : Nat → Nat → Int) (n t s f : Nat) : Nat → Nat
  | 0 => f
  | k + 1 => nxt A n t (s - 1 - k) (xs A n t s f k)
def hvL (A : Nat → Nat → Int) (n t s f : Nat) (k : Nat) : List Int := (List.range k).map fun i => ((xs A n t s f i : Nat) : Int)
def heavyRes (R : List (List Int)) (f t : Int) : List Int × Int :=
  if sqB R then (if inN R.length f && inN R.length t then (if noPos (ent R) R.length then (if starF (ent R) R.length t.toNat f.toNat = -1000000000000000 then ([], 4)
    else (hvL (ent R) R.length t.toNat (arcs (ent R) R.length f.toNat t.toNat) f.toNat (arcs (ent R) R.length f.toNat t.toNat + 1), 0)) else ([], 5)) else ([], 2)) else ([], 1)
theorem hvL_len (A : Nat → Nat → Int) (n t s f k : Nat) : (hvL A n t s f k).length = k := by simp [hvL]
theorem hvL_succ (A : Nat → Nat → Int) (n t s f k : Nat) : hvL A n t s f (k + 1) = hvL A n t s f k ++ [((xs A n t s f k : Nat) : Int)] := by
  unfold hvL; rw [List.range_succ]; simp
theorem hvL_at (A : Nat → Nat → Int) (n t s f k i : Nat) (h : i < k) : (hvL A n t s f k).getD i 0 = ((xs A n t s f i : Nat) : Int) := by
  simp [hvL, h]
theorem lv_le (p : Nat → Bool) (f : Nat) : ∀ k, lv p f k ≤ k + f := by
  induction f with
  | zero => intro k; exact Nat.le_refl _
  | succ f ih =>
    intro k
    show (if p k then k else _) ≤ _
    split
    · omega
    · have := ih (k + 1); omega
theorem heavyRes_len (R : List (List Int)) (f t : Int) : (heavyRes R f t).1.length ≤ 12 := by
  unfold heavyRes
  split
  · split
    · split
      · split
        · simp
        · rw [hvL_len]
          have := lv_le (fun s => decide (cpw (ent R) R.length s t.toNat f.toNat = starF (ent R) R.length t.toNat f.toNat)) 11 0
          unfold arcs
          omega
      · simp
    · simp
  · simp
section
variable {A : Nat → Nat → Int} {n : Nat} (hn : n ≤ 10) (hA : ∀ i j, i < n → j < n → Sm 1000001000000 (A i j))
include hn hA
/-- There is a number of arcs with which the weight in the star is reached. -/
theorem arcs_is (hp : noPos A n = true) {f t : Nat} (hf : f < n) (ht : t < n) (h : starF A n t f ≠ -1000000000000000) :
    cpw A n (arcs A n f t) t f = starF A n t f ∧ arcs A n f t ≤ 10 ∧ ∀ s, s < arcs A n f t → cpw A n s t f ≠ starF A n t f := by
  have hd := o_diag hn hA hp
  have e1 : o (starF A n t f) = obm (fun i j => o (A i j)) n n t f := by
    unfold starF
    rw [← clo_star hn hA hp ht hf, o_cbm hA n (by omega) t f ht hf]
  obtain ⟨s, hs, hle⟩ := opw_star (f := fun i j => o (A i j)) ht hf (by rw [← e1]; exact fun e => h (o_none.1 e))
  have hge := opw_le hd ht hf s
  have e2 := ole_anti hge hle
  rw [← o_cpw hA s (by omega) t f ht hf, ← e1] at e2
  have e3 := o_inj e2
  obtain ⟨h1, h2, h3⟩ := lv_ex (p := fun s => decide (cpw A n s t f = starF A n t f)) (n := 11) ⟨s, by omega, by simpa using e3⟩
  refine ⟨of_decide_eq_true h1, by unfold arcs; omega, fun s hs => ?_⟩
  have := h3 s hs
  simpa using this
end
section
variable {A : Nat → Nat → Int} {n : Nat} (hA : ∀ i j, i < n → j < n → Sm 1000001000000 (A i j))
include hA
/-- A heaviest path with more than no arcs goes on. -/
theorem nxt_is {t s x : Nat} (hs : s ≤ 10) (ht : t < n) (hx : x < n) (h : cpw A n (s + 1) t x ≠ -1000000000000000) :
    nxt A n t s x < n ∧ times (cpw A n s t (nxt A n t s x)) (A (nxt A n t s x) x) = cpw A n (s + 1) t x ∧ ∀ v, v < nxt A n t s x → times (cpw A n s t v) (A v x) ≠ cpw A n (s + 1) t x := by
  have hex : ∃ v, v < n ∧ stepB A n t s x v = true := by
    have e := o_cpw hA (s + 1) (by omega) t x ht hx
    rcases osum_att n (fun u => omul (opw (fun i j => o (A i j)) n s t u) (o (A u x))) with k | ⟨u, hu, k⟩
    · exact absurd (o_none.1 (e.trans k)) h
    · refine ⟨u, hu, ?_⟩
      unfold stepB
      rw [decide_eq_true_eq]
      refine o_inj ?_
      rw [o_times (cpw_sm hA s t u ht hu) (hA u x hu hx) (by omega) (by omega), o_cpw hA s (by omega) t u ht hu]
      exact (e.trans k).symm
  obtain ⟨h1, h2, h3⟩ := lv_ex hex
  refine ⟨h2, of_decide_eq_true h1, fun v hv => ?_⟩
  have := h3 v hv
  simpa [stepB] using this
theorem nxt_fin {t s x : Nat} (hs : s ≤ 10) (ht : t < n) (hx : x < n) (h : cpw A n (s + 1) t x ≠ -1000000000000000) :
    cpw A n s t (nxt A n t s x) ≠ -1000000000000000 ∧ A (nxt A n t s x) x ≠ -1000000000000000 := by
  obtain ⟨h1, h2, -⟩ := nxt_is hA hs ht hx h
  refine ⟨fun e => h ?_, fun e => h ?_⟩
  · rw [← h2, e, bot_times]
  · rw [← h2, e, times_bot]
/-- Along the path the rest stays a heaviest one. -/
theorem xs_inv {t s f : Nat} (hs : s ≤ 10) (ht : t < n) (hf : f < n) (h : cpw A n s t f ≠ -1000000000000000) (k : Nat) (hk : k ≤ s) :
    xs A n t s f k < n ∧ cpw A n (s - k) t (xs A n t s f k) ≠ -1000000000000000 := by
  induction k with
  | zero => exact ⟨hf, h⟩
  | succ k ih =>
    obtain ⟨h1, h2⟩ := ih (by omega)
    have e : s - k = s - 1 - k + 1 := by omega
    rw [e] at h2
    show nxt A n t (s - 1 - k) (xs A n t s f k) < n ∧ cpw A n (s - (k + 1)) t (nxt A n t (s - 1 - k) (xs A n t s f k)) ≠ _
    rw [show s - (k + 1) = s - 1 - k by omega]
    exact ⟨(nxt_is hA (by omega) ht h1 h2).1, (nxt_fin hA (by omega) ht h1 h2).1⟩
/-- What is left of the weight. -/
theorem xs_need {t s f : Nat} (hs : s ≤ 10) (ht : t < n) (hf : f < n) (h : cpw A n s t f ≠ -1000000000000000) (k : Nat) (hk : k < s) :
    cpw A n (s - (k + 1)) t (xs A n t s f (k + 1)) = cpw A n (s - k) t (xs A n t s f k) - A (xs A n t s f (k + 1)) (xs A n t s f k) := by
  obtain ⟨h1, h2⟩ := xs_inv hA hs ht hf h k (by omega)
  have e : s - k = s - 1 - k + 1 := by omega
  rw [e] at h2
  have h3 := (nxt_is hA (by omega) ht h1 h2).2.1
  have h4 := nxt_fin hA (by omega) ht h1 h2
  rw [show s - (k + 1) = s - 1 - k by omega, e]
  show cpw A n (s - 1 - k) t (nxt A n t (s - 1 - k) (xs A n t s f k)) = _ - A (nxt A n t (s - 1 - k) (xs A n t s f k)) _
  unfold times at h3
  rw [if_neg (by rintro (e | e); exact h4.1 e; exact h4.2 e)] at h3
  omega
theorem xs_end {t s f : Nat} (hs : s ≤ 10) (ht : t < n) (hf : f < n) (h : cpw A n s t f ≠ -1000000000000000) : xs A n t s f s = t := by
  obtain ⟨h1, h2⟩ := xs_inv hA hs ht hf h s (Nat.le_refl _)
  rw [Nat.sub_self] at h2
  have h2 : unit t (xs A n t s f s) ≠ -1000000000000000 := h2
  unfold unit at h2
  split at h2
  · next e => exact e.symm
  · exact absurd rfl h2
end
end M
end Go.Proofs.YtihpbgjiohnekabGreat

namespace Go.Proofs.YtihpbgjiohnekabGreat.V
open Go.RowKit

/-- The matrices P, n rows each, in a list of its own; each was made at a world of its own and has stayed since. -/
def Pws (w : World) (B : Nat) (v : Value) (m n : Nat) (P : Nat → List (List Int)) : Prop :=
  ∃ V : List Value, V.length = m ∧ w.ownsRow B 24 1 v m V ∧
    ∀ i, i < m → ∃ (wi : World) (lo : Nat) (b : Option Addr) (c : Nat), V.getD i (.slice none 0 0) = .slice b n c ∧ OwnM wi lo (.slice b n c) (P i) ∧ wi.heap.size ≤ w.heap.size ∧ Same lo wi.heap.size wi w ∧ ∀ k, v.ownBlock = some k → ¬(lo ≤ k ∧ k < wi.heap.size)

theorem OwnM.same {wi w : World} {lo : Nat} {v : Value} {R : List (List Int)} (h : OwnM wi lo v R) (hs : Same lo wi.heap.size wi w) : OwnM w lo v R :=
  h.keep hs
theorem Pws.below {w w' : World} {B : Nat} {v : Value} {m n : Nat} {P : Nat → List (List Int)} (h : Pws w B v m n P) (hb : Below w.heap.size w w') : Pws w' B v m n P := by
  obtain ⟨V, h1, h2, h3⟩ := h
  refine ⟨V, h1, ownsRow_keep h2 (fun k hv => hb.block k (own_lt h2 hv).2), fun i hi => ?_⟩
  obtain ⟨wi, lo, b, c, e, ho, hz, hs, hk⟩ := h3 i hi
  exact ⟨wi, lo, b, c, e, ho, Nat.le_trans hz hb.size, hs.below hb hz, hk⟩
/-- One of the matrices. -/
theorem Pws.at {w : World} {B : Nat} {a : Option Addr} {m n cap : Nat} {P : Nat → List (List Int)} (h : Pws w B (.slice a m cap) m n P) (i : Nat) (hi : i < m) :
    ∃ g b c, a = some ⟨g, 0, none⟩ ∧ w.cell? ⟨g, i, none⟩ = some (.slice b n c) ∧ Mat w b n (P i) := by
  obtain ⟨V, h1, h2, h3⟩ := h
  obtain ⟨a', c', hv, hc, hm, hg⟩ := own_form h2
  injection hv with e1 e2 e3
  subst e1 e3
  obtain ⟨g, rfl, hB, hlt⟩ := hg (by omega)
  obtain ⟨wi, lo, b, c, e, ho, hz, hs, hk⟩ := h3 i hi
  refine ⟨g, b, c, rfl, ?_, (ho.same hs).mat⟩
  rw [World.ownsRow.cellAt h2 i (by omega), ← e]
  simp [show i < V.length by omega]
theorem Pws.caps {w : World} {B : Nat} {a : Option Addr} {m n cap : Nat} {P : Nat → List (List Int)} (h : Pws w B (.slice a m cap) m n P) : m ≤ cap ∧ cap ≤ maxLen := by
  obtain ⟨V, h1, h2, _⟩ := h
  obtain ⟨a', c', hv, k1, k2, _⟩ := own_form h2
  injection hv with e1 e2 e3
  subst e3
  exact ⟨k1, k2⟩
theorem pws_lit1 (w : World) (B n : Nat) (hB : B ≤ w.heap.size) {b : Option Addr} {c : Nat} {M : List (List Int)} (ho : OwnM w B (.slice b n c) M) (P : Nat → List (List Int)) (hP : P 0 = M) :
    Pws (w.alloc (.cells #[.slice b n c] 24)) B (.slice (some ⟨w.heap.size, 0, none⟩) 1 1) 1 n P := by
  refine ⟨[.slice b n c], rfl, World.ownsRow_lit w #[.slice b n c] 1 hB (by decide) rfl, fun i hi => ?_⟩
  obtain rfl : i = 0 := by omega
  refine ⟨w, B, b, c, rfl, by rw [hP]; exact ho, (b_alloc w _).size, (Same.refl B w.heap.size w).below (b_alloc w _) (Nat.le_refl _), fun k hk => ?_⟩
  simp only [Value.ownBlock, Option.some.injEq] at hk
  omega
theorem infoM64 : (Tryz.prog.info? 24).map (fun i => (i.zero, i.size, i.bytes)) = some (some (.slice none 0 0), 1, 24) := by kernel_rfl

end Go.Proofs.YtihpbgjiohnekabGreat.V

namespace Go.Proofs.YtihpbgjiohnekabGreat.V
open Go.RowKit
set_option maxRecDepth 100000 in
set_option maxHeartbeats 4000000 in
theorem sComponents (a : Option Addr) (n cap : Nat) (R : List (List Int)) (w : World) (h : Sq w a n R) :
    Calls Tryz.prog 183 #[.slice a n cap] w fun e w' => ∃ b m c, e = .returned (.slice b m c) ∧ OwnM w' w.heap.size (.slice b m c) (M.compsL (M.ent R) n) ∧ Below w.heap.size w w' := by
  have HSq := Lib.hid h
  obtain ⟨n1, n2⟩ := h.2.2.2
  clear h
  go_enter Tryz.func183, Tryz.ntmps183
  go_wp2_with fail
  refine (sReach _ _ _ R _ HSq.out).mono ?_
  rintro e w1 ⟨tb, tc, rfl, ht, hb⟩
  have HT := Lib.hid ht
  have HB1 := Lib.hid hb
  obtain ⟨tg, -, rfl, -, -⟩ := ht.at 0 0 n1 n1
  clear ht hb
  go_wp2
  go_loopw [4, 5, 6, 7] (fun o i _ _ wr => ∃ (k : Nat) (b : Option Addr) (c : Nat), k ≤ n ∧ i = .int .i64 k ∧ o = .slice b (M.compsP (M.ent R) n k).length c ∧ Hid (OwnM wr w1.heap.size (.slice b (M.compsP (M.ent R) n k).length c) (M.compsP (M.ent R) n k)) ∧ Hid (Below w1.heap.size w1 wr)) (fun _ i _ _ _ => n - (intOf i).toNat)
  case atStart => exact ⟨0, _, 0, Nat.zero_le _, rfl, rfl, ownM_lit0 _ _ (Nat.le_refl _), b_alloc _ _⟩
  case round =>
    obtain ⟨k, b, c, hk, rfl, rfl, HO, HB⟩ := hrel
    obtain ⟨wo, rfl⟩ : ∃ x, x = wr := ⟨_, rfl⟩
    by_cases hlt : k < n
    · have hki : (k : Int) < (n : Int) := by omega
      have HNx := Lib.hid (M.compsP_next (M.ent R) n k)
      have HLn := Lib.hid (M.compsP_len (M.ent R) n k)
      go_wp2
      go_loopw [6, 7] (fun o i wr => ∃ (t : Nat) (b : Option Addr) (c : Nat), t ≤ n ∧ i = .int .i64 t ∧ o = .slice b (M.compP (M.ent R) n k t).length c ∧ Hid (Own wr wo.heap.size (.slice b (M.compP (M.ent R) n k t).length c) (M.compP (M.ent R) n k t)) ∧ Hid (Below wo.heap.size wo wr)) (fun _ i _ => n - (intOf i).toNat)
      case atStart => exact ⟨0, _, 0, Nat.zero_le _, rfl, rfl, own_lit0 _ _ (Nat.le_refl _), b_alloc _ _⟩
      case round =>
        obtain ⟨t, b2, c2, ht, rfl, rfl, HI, HBi⟩ := hrel
        by_cases htl : t < n
        · have hti : (t : Int) < (n : Int) := by omega
          have HTw := Lib.hid ((HT.out.below HB.out).below HBi.out)
          obtain ⟨g1, q1, e1, r1, r2⟩ := ((HT.out.below HB.out).below (HBi.out.mono (Nat.le_refl _))).at k t hlt htl
          injection e1 with e1
          injection e1 with e1
          subst e1
          obtain ⟨g1, q2, e1, r3, r4⟩ := ((HT.out.below HB.out).below (HBi.out.mono (Nat.le_refl _))).at t k htl hlt
          injection e1 with e1
          injection e1 with e1
          subst e1
          have hnx := M.compP_next (M.ent R) n k t
          have hrl : M.relB (M.ent R) n k t = (M.rchB (M.ent R) n k t && M.rchB (M.ent R) n t k) := rfl
          have hlen := M.compP_len (M.ent R) n k t
          obtain ⟨x, hx⟩ : ∃ x, x = M.rchB (M.ent R) n k t := ⟨_, rfl⟩
          obtain ⟨y, hy⟩ : ∃ y, y = M.rchB (M.ent R) n t k := ⟨_, rfl⟩
          rw [← hx] at r2 hrl
          rw [← hy] at r4 hrl
          rw [hrl] at hnx
          clear hx hy hrl HTw
          cases x with
          | false =>
            have HN : Hid (M.compP (M.ent R) n k (t + 1) = M.compP (M.ent R) n k t) := by show _ = _; rw [hnx]; simp
            clear hnx
            go_wp2
            go_roundw
            case rel => exact ⟨t + 1, b2, c2, by omega, by go_num, by rw [HN.out], by show Own _ _ _ _; rw [HN.out]; exact HI.out, HBi⟩
            case measure => simp [intOf]; omega
          | true =>
            cases y with
            | false =>
              have HN : Hid (M.compP (M.ent R) n k (t + 1) = M.compP (M.ent R) n k t) := by show _ = _; rw [hnx]; simp
              clear hnx
              go_wp2
              go_roundw
              case rel => exact ⟨t + 1, b2, c2, by omega, by go_num, by rw [HN.out], by show Own _ _ _ _; rw [HN.out]; exact HI.out, HBi⟩
              case measure => simp [intOf]; omega
            | true =>
              have HN : Hid (M.compP (M.ent R) n k (t + 1) = M.compP (M.ent R) n k t ++ [(t : Int)]) := by show _ = _; rw [hnx]; simp
              clear hnx
              generalize M.compP (M.ent R) n k t = l at *
              go_wp2_with (at_builtin; refine append1 _ rfl (.tmp 40) (.tmp 42) rfl wo.heap.size _ l (t : Int) _ rfl rfl HI.out rfl (by omega) HBi.out.size ?_)
              intro b4 c4 w4 hO4 hb4 _
              have HO4 := Lib.hid hO4
              have HB4 := Lib.hid (HBi.out.trans hb4)
              rw [← HN.out] at HO4
              clear hO4 hb4
              go_wp2
              go_roundw
              case rel => exact ⟨t + 1, b4, c4, by omega, by go_num, by rw [HN.out, List.length_append]; rfl, by show Own _ _ _ _; rw [HN.out, List.length_append]; rw [HN.out] at HO4; exact HO4.out, HB4⟩
              case measure => simp [intOf]; omega
        · obtain rfl : t = n := by omega
          have HO1 : Hid (Own wr wo.heap.size (.slice b2 (M.compL (M.ent R) t k).length c2) (M.compL (M.ent R) t k)) := HI
          have hsl : (Value.slice b2 (M.compP (M.ent R) t k t).length c2) = .slice b2 (M.compL (M.ent R) t k).length c2 := rfl
          rw [hsl]
          clear HI hsl
          obtain ⟨d, od, x, rfl, -, hx, cx⟩ := HO1.out.ints'.at 0 (M.compL_pos hlt)
          rw [Nat.add_zero] at cx
          have hrep := (M.rep_t (A := M.ent R) hlt).2.2
          rw [← hx] at hrep
          have HRp := Lib.hid hrep
          have hlen1 : (M.compL (M.ent R) t k).length ≤ 10 := by have := M.compP_len (M.ent R) t k t; unfold M.compL; omega
          have hlen0 := M.compL_pos (A := M.ent R) hlt
          clear hx hrep
          generalize M.compL (M.ent R) t k = l at *
          by_cases hr : x = (k : Int)
          · have HN : Hid (M.compsP (M.ent R) t (k + 1) = M.compsP (M.ent R) t k ++ [l]) := by show _ = _; rw [HNx.out, if_pos (by have := HRp.out; omega)]
            have hr2 : (x == (k : Int)) = true := by simp [hr]
            clear hr
            generalize M.compsP (M.ent R) t k = L at *
            go_wp2_with (at_builtin; refine appendRow wo _ rfl (.tmp 49) (.tmp 51) rfl w1.heap.size _ _ L l _ rfl rfl HO.out HBi.out HO1.out rfl (by have := HLn.out; omega) HB.out.size ?_)
            intro b4 c4 w4 hO4 hb4 _
            have HO4 := Lib.hid hO4
            have HB4 := Lib.hid ((HB.out.trans (HBi.out.mono HB.out.size)).trans hb4)
            clear hO4 hb4
            go_wp2
            go_roundw
            case rel => exact ⟨k + 1, b4, c4, by omega, by go_num, by rw [HN.out, List.length_append]; rfl, by show OwnM _ _ _ _; rw [HN.out, List.length_append]; exact HO4.out, HB4⟩
            case measure => simp [intOf]; omega
          · have HN : Hid (M.compsP (M.ent R) t (k + 1) = M.compsP (M.ent R) t k) := by show _ = _; rw [HNx.out, if_neg (by have := HRp.out; omega), List.append_nil]
            have hr2 : (x == (k : Int)) = false := by simpa using hr
            go_wp2
            go_roundw
            case rel => exact ⟨k + 1, b, c, by omega, by go_num, by rw [HN.out], by show OwnM _ _ _ _; rw [HN.out]; exact HO.out.below HBi.out, HB.out.trans (HBi.out.mono HB.out.size)⟩
            case measure => simp [intOf]; omega
    · obtain rfl : k = n := by omega
      go_wp2
      go_ret
      exact ⟨b, _, c, rfl, HO.out.mono HB1.out.size, HB1.out.trans (HB.out.mono HB1.out.size)⟩
end Go.Proofs.YtihpbgjiohnekabGreat.V

namespace Go.Proofs.YtihpbgjiohnekabGreat
namespace M
theorem up_sub (R : List (List Int)) (v : Nat) : ∀ i j, i < R.length → j < R.length → ent (mk R.length R.length (upF (ent R) R.length v)) i j = ent R i j ∨ ent (mk R.length R.length (upF (ent R) R.length v)) i j = -1000000000000000 := fun i j hi hj => by
  rw [ent_mk _ _ _ _ _ hi hj]
  unfold upF
  split
  · exact .inl rfl
  · exact .inr rfl
/-- No upstream mean is greater than the cycle mean. -/
theorem up_cmp {R : List (List Int)} {x : Int} (h : (upRes R x).2 = 0) (hc : (cycMeanRes R).2 = 0) :
    (cmpOf (upRes R x).1.1 (upRes R x).1.2 (cycMeanRes R).1.1 (cycMeanRes R).1.2).2 = 0 ∧ (cmpOf (upRes R x).1.1 (upRes R x).1.2 (cycMeanRes R).1.1 (cycMeanRes R).1.2).1 ≤ 0 := by
  obtain ⟨k1, k2, k3, k4⟩ := cyc_t hc
  obtain ⟨n1, n2, hA⟩ := sq_sm k1
  unfold upRes at h ⊢
  rw [if_pos k1] at h ⊢
  by_cases hx : inN R.length x = true
  · rw [if_pos hx] at h ⊢
    obtain ⟨g1, g2, g3, g4⟩ := cyc_t h
    rw [mk_length] at g2 g3 g4
    have hle := sub_le n2 hA (up_sub R x.toNat) g2
    rw [g4, k4]
    unfold cmpOf
    dsimp only
    rw [g3, k3, if_pos (by rfl)]
    refine ⟨rfl, ?_⟩
    show cmpZ _ _ ≤ 0
    unfold cmpZ
    split
    · omega
    · rw [if_neg (by omega)]; omega
  · rw [if_neg hx] at h; simp at h
/-- The upstream mean of a node of the best cycle is the cycle mean. -/
theorem up_best {R : List (List Int)} (hc : (cycMeanRes R).2 = 0) : upRes R ((bestCyc R).getD 0 0) = cycMeanRes R := by
  obtain ⟨k1, k2, k3, k4⟩ := cyc_t hc
  obtain ⟨n1, n2, hA⟩ := sq_sm k1
  obtain ⟨q1, q2, q3, q4⟩ := best_cyc k1 k2
  have hn : nodesB R.length (bestCyc R) = true ∧ aroundW R (bestCyc R) ≠ -1000000000000000 := by
    unfold cycB at q1
    rw [Bool.and_eq_true, Bool.and_eq_true, Bool.and_eq_true] at q1
    exact ⟨q1.1.1.2, of_decide_eq_true q1.2⟩
  obtain ⟨hn, hf⟩ := hn
  have hat := nodesB_at hn (k := 0) (by omega)
  have hlt := vx_lt hn (k := 0) (by omega)
  obtain ⟨c, hcv⟩ : ∃ c, c = vx (bestCyc R) 0 := ⟨_, rfl⟩
  have e0 : ((bestCyc R).getD 0 0).toNat = c := hcv.symm
  have hin : inN R.length ((bestCyc R).getD 0 0) = true := by
    unfold inN; rw [decide_eq_true hat.1, decide_eq_true hat.2]; rfl
  unfold upRes
  rw [if_pos k1, if_pos hin, e0]
  generalize bestCyc R = q at *
  have hvn : ∀ u, vx q (u % q.length) < R.length := fun u => vx_lt hn (Nat.mod_lt _ (by omega))
  have ho := list_owk (A := ent R) (fun i j hi hj => sm_wide (hA i j hi hj)) q3 (by omega) hn
  rw [← around_arW, o_fin hf] at ho
  have hcl : vx q (q.length % q.length) = vx q (0 % q.length) := by rw [Nat.mod_self, Nat.zero_mod]
  have harc := owk_arc (A := ent R) (v := fun u => vx q (u % q.length)) (s := q.length) (by rw [← ho]; simp)
  obtain ⟨e1, e2⟩ := sub_same (A := ent R) (A' := ent (mk R.length R.length (upF (ent R) R.length c))) n2 hA (up_sub R c) (v := fun u => vx q (u % q.length)) (s := q.length) (w := aroundW R q) q3 hcl (fun u _ => hvn u) ho.symm (by
    have hb := rat_back (n := aroundW R q) (d := (q.length : Int)) (by omega)
    have e1 : ratN (aroundW R q) q.length = (bestR (ent R) R.length).1 := congrArg Prod.fst q2
    have e2 : ratD (aroundW R q) q.length = (bestR (ent R) R.length).2 := congrArg Prod.snd q2
    rw [e1, e2] at hb
    rw [Int.mul_comm, ← hb]; ac_rfl) (fun u hu => by
    show ent (mk R.length R.length (upF (ent R) R.length c)) (vx q ((u + 1) % q.length)) (vx q (u % q.length)) = _
    rw [ent_mk _ _ _ _ _ (hvn _) (hvn _)]
    have hr : rchB (ent R) R.length (vx q ((u + 1) % q.length)) c = true := by
      refine rchB_t.2 ⟨q.length - (u + 1), fun t => vx q ((u + 1 + t) % q.length), rfl, ?_, fun t _ => hvn _, fun t ht => ?_⟩
      · show vx q ((u + 1 + (q.length - (u + 1))) % q.length) = c
        rw [show u + 1 + (q.length - (u + 1)) = q.length by omega, Nat.mod_self, hcv]
      · exact harc (u + 1 + t) (by omega)
    unfold upF
    rw [if_pos hr])
  have hup := up_val k1 c
  unfold cycMeanRes
  rw [sq_mk n1 n2 hup, mk_length, k1, e1, e2, k2]
/-- The nodes of a component reach each other. -/
theorem comp_rch {A : Nat → Nat → Int} {n : Nat} {l : List Int} (hl : l ∈ compsL A n) {i j : Nat} (hi : i < l.length) (hj : j < l.length) :
    ∃ x y : Nat, x < n ∧ y < n ∧ l.getD i 0 = x ∧ l.getD j 0 = y ∧ rchB A n x y = true ∧ rchB A n y x = true := by
  obtain ⟨v, hv, -, rfl⟩ := mem_compsP.1 hl
  obtain ⟨x, hx, rx, ex⟩ := compL_at hi
  obtain ⟨y, hy, ry, ey⟩ := compL_at hj
  obtain ⟨a1, a2⟩ := relB_t.1 rx
  obtain ⟨b1, b2⟩ := relB_t.1 ry
  exact ⟨x, y, hx, hy, ex, ey, rchB_t.2 (rch_trans a2 b1), rchB_t.2 (rch_trans b2 a1)⟩
end M
end Go.Proofs.YtihpbgjiohnekabGreat

namespace Go.Proofs.YtihpbgjiohnekabGreat
namespace M
theorem filter_ids (L : List (List Int)) (p : List Int → Bool) : ((List.range L.length).filter fun i => p (L.getD i [])).map (fun i => L.getD i []) = L.filter p := by
  have h : (List.range L.length).map (fun i => L.getD i []) = L := by
    apply List.ext_getElem
    · simp
    · intro k k1 k2
      simp only [List.getElem_map, List.getElem_range]
      rw [List.getD_eq_getElem?_getD, List.getElem?_eq_getElem k2, Option.getD_some]
  conv => rhs; rw [← h]
  rw [List.filter_map]
  rfl
/-- The chosen places among the first k. -/
def idsK (L : List (List Int)) (p : List Int → Bool) (k : Nat) : List Nat := (List.range k).filter fun i => p (L.getD i [])
theorem idsK_next (L : List (List Int)) (p : List Int → Bool) (k : Nat) : idsK L p (k + 1) = idsK L p k ++ (if p (L.getD k []) then [k] else []) := by
  unfold idsK
  rw [List.range_succ, List.filter_append]
  congr 1
  by_cases h : p (L.getD k []) = true
  · rw [if_pos h]; rw [List.getD_eq_getElem?_getD] at h; simp [h]
  · rw [if_neg h]; rw [List.getD_eq_getElem?_getD] at h; simp [h]
theorem idsK_len (L : List (List Int)) (p : List Int → Bool) (k : Nat) : (idsK L p k).length ≤ k := by
  unfold idsK
  exact Nat.le_trans (List.length_filter_le _ _) (by simp)
theorem idsK_lt {L : List (List Int)} {p : List Int → Bool} {k i : Nat} (h : i ∈ idsK L p k) : i < k := List.mem_range.1 (List.mem_filter.1 h).1
theorem idsK_up (L : List (List Int)) (p : List Int → Bool) (k : Nat) : (idsK L p k).Pairwise (fun x y => x < y) := List.Pairwise.filter _ List.pairwise_lt_range
end M
namespace V
open Go.RowKit
theorem own_move {w w' : World} {B B' : Nat} {rv : Value} {l : List Int} (h : Own w B rv l) (hk : ∀ k, rv.ownBlock = some k → w'.heap[k]? = w.heap[k]? ∧ B' ≤ k) : Own w' B' rv l := by
  obtain ⟨h1, h2⟩ := h
  rcases h2 with h2 | ⟨g, cap, cur, e, hB, hh, r⟩
  · exact ⟨h1, .inl h2⟩
  · obtain ⟨k1, k2⟩ := hk g (by rw [e]; rfl)
    exact ⟨h1, .inr ⟨g, cap, cur, e, k2, by rw [k1]; exact hh, r⟩⟩
theorem getD_map_nat {α : Type} (f : Nat → α) (ids : List Nat) (d : α) (i : Nat) (hi : i < ids.length) : (ids.map f).getD i d = f ids[i] := by
  rw [List.getD_eq_getElem?_getD, List.getElem?_map, List.getElem?_eq_getElem hi]
  rfl
theorem OwnV.pick {w w' : World} {B B' : Nat} {v v' : Value} {R : List (List Int)} {V : List Value} (h : OwnV w B v R V) (ids : List Nat) (hid : ids.Pairwise (fun x y => x < y)) (hlt : ∀ i, i ∈ ids → i < R.length)
    (ho : w'.ownsRow B' 29 1 v' ids.length (ids.map fun i => V.getD i (.slice none 0 0)))
    (hk : ∀ i k, i < R.length → (V.getD i (.slice none 0 0)).ownBlock = some k → w'.heap[k]? = w.heap[k]? ∧ B' ≤ k ∧ v'.ownBlock ≠ some k) :
    OwnV w' B' v' (ids.map fun i => R.getD i []) (ids.map fun i => V.getD i (.slice none 0 0)) := by
  obtain ⟨h1, h2, h3, h4, h5⟩ := h
  have hl : (ids.map fun i => R.getD i []).length = ids.length := by simp
  refine ⟨by simp, by rw [hl]; exact ho, fun i hi => ?_, fun i hi k e => ?_, fun i j hi hj hne k e => ?_⟩
  · rw [hl] at hi
    rw [getD_map_nat _ _ _ _ hi, getD_map_nat _ _ _ _ hi]
    have hm := hlt _ (List.getElem_mem hi)
    exact own_move (h3 _ hm) fun k e => ⟨(hk _ k hm e).1, (hk _ k hm e).2.1⟩
  · rw [hl] at hi
    rw [getD_map_nat _ _ _ _ hi] at e
    exact (hk _ k (hlt _ (List.getElem_mem hi)) e).2.2
  · rw [hl] at hi hj
    rw [getD_map_nat _ _ _ _ hi] at e
    rw [getD_map_nat _ _ _ _ hj]
    refine h5 _ _ (hlt _ (List.getElem_mem hi)) (hlt _ (List.getElem_mem hj)) (fun q => ?_) k e
    rcases Nat.lt_or_gt_of_ne hne with hij | hij
    · have := List.pairwise_iff_getElem.1 hid i j hi hj hij; omega
    · have := List.pairwise_iff_getElem.1 hid j i hj hi hij; omega
theorem OwnV.keep {w w' : World} {B : Nat} {v : Value} {R : List (List Int)} {V : List Value} (h : OwnV w B v R V) (hk : ∀ k, B ≤ k → k < w.heap.size → w'.heap[k]? = w.heap[k]?) : OwnV w' B v R V := by
  obtain ⟨h1, h2, h3, h4, h5⟩ := h
  exact ⟨h1, ownsRow_keep h2 (fun k hv => hk k (own_lt h2 hv).1 (own_lt h2 hv).2), fun i hi => (h3 i hi).keep hk, h4, h5⟩
theorem OwnV.below {w w' : World} {B : Nat} {v : Value} {R : List (List Int)} {V : List Value} (h : OwnV w B v R V) (hb : Below w.heap.size w w') : OwnV w' B v R V := h.keep (fun k _ h2 => hb.block k h2)
theorem row_lit0 (w : World) (B : Nat) (hB : B ≤ w.heap.size) : (w.alloc (.cells #[] 29)).ownsRow B 29 1 (.slice (some ⟨w.heap.size, 0, none⟩) 0 0) 0 [] := by
  obtain ⟨V, h1, h2, -⟩ := ownM_lit0 w B hB
  obtain rfl : V = [] := List.eq_nil_of_length_eq_zero h1
  exact h2
/-- One row of an owned matrix, with its value. -/
theorem OwnV.cell {w : World} {B : Nat} {a : Option Addr} {n cap : Nat} {R : List (List Int)} {V : List Value} (h : OwnV w B (.slice a n cap) R V) (i : Nat) (hi : i < n) :
    ∃ g ra rc, a = some ⟨g, 0, none⟩ ∧ V.getD i (.slice none 0 0) = .slice ra (R.getD i []).length rc ∧ w.cell? ⟨g, i, none⟩ = some (.slice ra (R.getD i []).length rc) ∧ Ints .i64 w ra (R.getD i []).length (R.getD i []) := by
  obtain ⟨h1, h2, h3, h4, h5⟩ := h
  obtain ⟨a', c', hv, hc, hm, hg⟩ := own_form h2
  injection hv with e1 e2 e3
  subst e1 e2 e3
  obtain ⟨g, rfl, hB, hlt⟩ := hg (by omega)
  obtain ⟨ra, rc, hv, hI⟩ := (h3 i hi).ints
  refine ⟨g, ra, rc, rfl, hv, ?_, hI⟩
  have := World.ownsRow.cellAt h2 i (by omega)
  rw [this, ← hv]
  simp [h1, hi]
theorem appendVal (w : World) {ops : Array Oper} {rest : List Oper} {o : Oper} {a : Act} {Q : Exit → Act → World → Prop} (hgd : o.guard = none) (s x : Operand)
    (ho : o.op = .call { callee := .builtin .append, args := #[s, x], argTypes := #[24, 24] }) (B : Nat) (v : Value) (V : List Value) (ra : Option Addr) (L rc n : Nat) (hs : a.eval s = v) (hown : w.ownsRow B 29 1 v n V)
    (hx : a.eval x = .slice (some ⟨w.heap.size, 0, none⟩) 1 1) (hlen : n ≤ 2000000) (hB : B ≤ w.heap.size)
    (h : ∀ b' c' w', w'.ownsRow B 29 1 (.slice b' (n + 1) c') (n + 1) (V ++ [.slice ra L rc]) → Below B w w' → (∀ k, k < w.heap.size → v.ownBlock ≠ some k → w'.heap[k]? = w.heap[k]?) → wpList Tryz.prog ops Q rest (a.put o.dst (.slice b' (n + 1) c')) w') :
    wpList Tryz.prog ops Q (o :: rest) a (w.alloc (.cells #[.slice ra L rc] 29)) := by
  obtain ⟨i0, hi, hz0, hz1, hz2⟩ := info_parts infoS64
  have hown2 : (w.alloc (.cells #[.slice ra L rc] 29)).ownsRow B 29 1 v n V := World.ownsRow.alloc hown _
  have hVl : V.length = n := by have := hown.1; omega
  refine wpList_append_own_at (w := w.alloc (.cells #[.slice ra L rc] 29)) hgd s x 24 ho B 29 i0 (.slice none 0 0) 1 24 Tryz.underlying24 hi hz0 hz1 hz2 rfl (by decide) v _ _ hs hown2 ⟨w.heap.size, 0, none⟩ 1 1 [.slice ra L rc] hx rfl (cell_one_new _ _ _) ?c2 ?c3 ?c4 ?c5 ?_
  case c2 => intro u hu; simp at hu; subst hu; rfl
  case c3 => unfold maxLen; omega
  case c4 => omega
  case c5 => simp; omega
  · intro v' w' hown' hgrow hz hvb
    have ho' : w'.ownsRow B 29 1 v' (n + 1) (V ++ [.slice ra L rc]) := by simpa using hown'
    obtain ⟨b', c', hv', _⟩ := own_form ho'
    subst hv'
    refine h b' c' w' ho' (((Below.refl B w).alloc hB _).grown hgrow (by simp; omega) (fun k hk => (own_lt hown hk).1)) (fun k hk hne => ?_)
    obtain ⟨g1, g2, g3, g4, g5⟩ := hgrow
    rw [g5 k (by simp; omega) (fun e => hne e.symm), Below.heap_alloc _ _ _ hk]
end V
end Go.Proofs.YtihpbgjiohnekabGreat

namespace Go.Proofs.YtihpbgjiohnekabGreat
namespace M
theorem crRow {R : List (List Int)} {n k : Nat} (hn : R.length = n) (hk : k < (compsL (ent (crM R)) n).length) :
    1 ≤ ((compsL (ent (crM R)) n).getD k []).length ∧ hasB (nodesL R) (((compsL (ent (crM R)) n).getD k []).getD 0 0) = crN R (vx ((compsL (ent (crM R)) n).getD k []) 0) := by
  have hm : (compsL (ent (crM R)) n).getD k [] ∈ compsL (ent (crM R)) n := by rw [List.getD_eq_getElem?_getD, List.getElem?_eq_getElem hk]; exact List.getElem_mem hk
  generalize (compsL (ent (crM R)) n).getD k [] = l at hm ⊢
  obtain ⟨v, hv, -, rfl⟩ := mem_compsP.1 hm
  have hp := compL_pos (A := ent (crM R)) hv
  refine ⟨hp, ?_⟩
  obtain ⟨x, hx, -, ex⟩ := compL_at (k := 0) hp
  unfold vx
  rw [ex]
  apply Bool.eq_iff_iff.2
  rw [hasB_iff, mem_nodesL]
  constructor
  · rintro ⟨f, hf, hc, e⟩
    obtain rfl : x = f := by omega
    simpa using hc
  · intro h; exact ⟨x, by omega, by simpa using h, rfl⟩
def crPick (R : List (List Int)) (l : List Int) : Bool := crN R (vx l 0)
theorem crM_sm {R : List (List Int)} (hs : sqB R = true) {n : Nat} (hn : R.length = n) : ∀ i j, i < n → j < n → Sm 1000000 (ent (crM R) i j) := by
  intro i j hi hj
  obtain ⟨-, -, hA⟩ := sq_sm hs
  subst hn
  unfold crM
  rw [ent_mk _ _ _ _ _ hi hj]
  unfold crF
  split
  · exact hA i j hi hj
  · exact .inl rfl
theorem crComps_ids {R : List (List Int)} {n : Nat} (hn : R.length = n) : (idsK (compsL (ent (crM R)) n) (crPick R) (compsL (ent (crM R)) n).length).map (fun i => (compsL (ent (crM R)) n).getD i []) = crComps R := by
  subst hn
  exact filter_ids _ _
end M
namespace V
set_option maxRecDepth 100000
open Go.RowKit
set_option maxRecDepth 100000 in
set_option maxHeartbeats 4000000 in
theorem sComponents6 (a : Option Addr) (n cap : Nat) (R : List (List Int)) (w : World) (h : Mat w a n R) (hs : M.sqB R = true) (hc : M.hasCyc (M.ent R) R.length = true) :
    Calls Tryz.prog 135 #[.slice a n cap] w fun e w' => ∃ b m c, e = .returned (.slice b m c) ∧ OwnM w' w.heap.size (.slice b m c) (M.crComps R) ∧ Below w.heap.size w w' := by
  have HA := Lib.hid h
  have HRn := Lib.hid h.1
  have HS := Lib.hid hs
  have HC := Lib.hid hc
  obtain ⟨hr, n1, n2, -⟩ := sq_parts h hs
  have HSm := Lib.hid (M.crM_sm hs h.1)
  have HRc : Hid (Rect (M.crM R) n n) := by show Rect _ _ _; rw [← h.1]; exact rect_mk _ _ _
  clear h hs hc hr
  go_enter Tryz.func135, Tryz.ntmps135
  go_wp2_with fail
  refine (sMatrix _ _ _ R _ HA.out HS.out HC.out).mono ?_
  rintro e w1 ⟨b1, c1, rfl, ho, hb⟩
  have HQ1 : Hid (Sq w1 b1 n (M.crM R)) := ⟨ho.mat, HRc.out, fun i j hi hj => M.sm_wide (HSm.out i j hi hj), n1, n2⟩
  have HB1 := Lib.hid hb
  clear ho hb
  go_wp2_with fail
  refine (sComponents _ _ _ (M.crM R) _ HQ1.out).mono ?_
  rintro e w2 ⟨b2, m2, c2, rfl, ho, hb⟩
  have hm2 := ho.len
  have HB2 := Lib.hid (HB1.out.trans (hb.mono HB1.out.size))
  have hzl := HB1.out.size
  have HRow := Lib.hid (fun k (hk : k < (M.compsL (M.ent (M.crM R)) n).length) => M.crRow HRn.out hk)
  have HEnd := Lib.hid (M.crComps_ids HRn.out)
  have hln : (M.compsL (M.ent (M.crM R)) n).length ≤ n := M.compsP_len _ _ _
  obtain ⟨V, hV⟩ := ho
  have HV2 := Lib.hid hV
  clear hb hV HQ1
  generalize M.compsL (M.ent (M.crM R)) n = L at *
  subst hm2
  go_wp2_with fail
  refine (sNodes6 _ _ _ R _ (HA.out.below HB2.out) HS.out HC.out).mono ?_
  rintro e w3 ⟨b3, c3, rfl, ho, hb⟩
  have HN3 := Lib.hid ho.ints'
  have HV3 := Lib.hid (HV2.out.below hb)
  have HB23 := Lib.hid hb
  have HB3 := Lib.hid (HB2.out.trans (hb.mono HB2.out.size))
  have hz3 : w2.heap.size ≤ w3.heap.size := hb.size
  have hz2 : w.heap.size ≤ w2.heap.size := HB2.out.size
  clear ho hb
  go_wp2
  go_loopw [5, 6] (fun o kv wr => ∃ (k : Nat) (b : Option Addr) (c : Nat), k ≤ L.length ∧ kv = .int .i64 k ∧ o = .slice b (M.idsK L (M.crPick R) k).length c ∧ Hid (wr.ownsRow w3.heap.size 29 1 (.slice b (M.idsK L (M.crPick R) k).length c) (M.idsK L (M.crPick R) k).length ((M.idsK L (M.crPick R) k).map fun i => V.getD i (.slice none 0 0))) ∧ Hid (Below w3.heap.size w3 wr)) (fun _ kv _ => L.length - (intOf kv).toNat)
  case atStart => exact ⟨0, _, _, Nat.zero_le _, rfl, rfl, row_lit0 _ _ (Nat.le_refl _), b_alloc _ _⟩
  case round =>
    obtain ⟨k, b, c, hk, rfl, rfl, HO, HB⟩ := hrel
    have HIn := Lib.hid (M.idsK_next L (M.crPick R) k)
    have HIl := Lib.hid (M.idsK_len L (M.crPick R) k)
    by_cases hkl : k < L.length
    · have hki : (k : Int) < (L.length : Int) := by omega
      obtain ⟨hr1, hr2⟩ := HRow.out k hkl
      obtain ⟨g, ra, rc, hga, hVk, cr, hI⟩ := (HV3.out.below HB.out).cell k hkl
      subst hga
      obtain ⟨q, qo, x0, hra, -, hx0, cx0⟩ := hI.at 0 (by omega)
      subst hra
      rw [Nat.add_zero] at cx0
      rw [← hx0] at hr2
      have HNw := Lib.hid (HN3.out.below HB.out)
      obtain ⟨hb, hhb⟩ : ∃ hb, hb = M.crPick R (L.getD k []) := ⟨_, rfl⟩
      have HH : Hid (M.hasB (M.nodesL R) x0 = hb) := by show _ = _; rw [hhb]; exact hr2
      have hin := HIn.out
      rw [← hhb] at hin
      have HVk := Lib.hid hVk
      have hm0 : (0 : Int) < ((L.getD k []).length : Int) := by omega
      clear hx0 hr2 hhb hI HIn hVk hr1
      generalize (L.getD k []).length = m at *
      generalize L.length = N at *
      generalize hnd : M.idsK L (M.crPick R) k = ids at *
      clear hnd
      cases hb with
      | false =>
        have HN : Hid (M.idsK L (M.crPick R) (k + 1) = ids) := by show _ = _; rw [hin]; simp
        clear hin
        go_wp2_with (go_at_call 176; refine (sHas _ _ _ (M.nodesL R) _ _ (by exact HNw.out)).mono ?_; rintro e w' ⟨rfl, rfl⟩; rw [HH.out])
        go_roundw
        case rel => exact ⟨k + 1, b, c, by omega, by go_num, by rw [HN.out], by show World.ownsRow _ _ _ _ _ _ _; rw [HN.out]; exact HO.out, HB⟩
        case measure => simp [intOf]; omega
      | true =>
        have HN : Hid (M.idsK L (M.crPick R) (k + 1) = ids ++ [k]) := by show _ = _; rw [hin]; simp
        clear hin
        go_wp2_with (first | (go_at_call 176; refine (sHas _ _ _ (M.nodesL R) _ _ (by exact HNw.out)).mono ?_; rintro e w' ⟨rfl, rfl⟩; rw [HH.out]) | (at_builtin; refine appendVal _ rfl (.tmp 27) (.tmp 32) rfl w3.heap.size _ _ _ m rc _ rfl HO.out rfl (by have := HIl.out; omega) HB.out.size ?_))
        intro b4 c4 w4 hO4 hb4 _
        have HO4 := Lib.hid hO4
        have HB4 := Lib.hid (HB.out.trans hb4)
        clear hO4 hb4
        go_wp2
        go_roundw
        case rel => exact ⟨k + 1, b4, c4, by omega, by go_num, by rw [HN.out, List.length_append]; rfl, by show World.ownsRow _ _ _ _ _ _ _; rw [HN.out, List.length_append, List.map_append]; have := HO4.out; rw [← HVk.out] at this; exact this, HB4⟩
        case measure => simp [intOf]; omega
    · obtain rfl : k = L.length := by omega
      have HP : Hid (OwnM wr w.heap.size (.slice b (M.idsK L (M.crPick R) L.length).length c) (M.crComps R)) := by
        show OwnM _ _ _ _
        rw [← HEnd.out]
        refine ⟨_, OwnV.pick HV2.out _ (M.idsK_up _ _ _) (fun i hi => M.idsK_lt hi) (World.ownsRow.mono HO.out (by omega)) fun i kk hi e => ?_⟩
        have hlt := own_lt (HV2.out.2.2.1 i hi) e
        refine ⟨(HB.out.block kk (by omega)).trans (HB23.out.block kk (by omega)), by omega, fun e2 => ?_⟩
        have := own_lt HO.out e2
        omega
      clear HO
      go_wp2
      go_ret
      exact ⟨b, _, c, rfl, HP.out, HB3.out.trans (HB.out.mono HB3.out.size)⟩
end V
end Go.Proofs.YtihpbgjiohnekabGreat
