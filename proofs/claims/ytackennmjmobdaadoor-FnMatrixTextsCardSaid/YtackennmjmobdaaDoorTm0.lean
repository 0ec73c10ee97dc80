/- Slices of texts that a call owns; strings.Join; how long texts of values are. -/
import Derived.Test.YtackennmjmobdaaDoorOwn
import Derived.Test.YtackennmjmobdaaDoorTxt
import Derived.Test.YtackennmjmobdaaDoorJoin
import Derived.Lib.Join
namespace Go.Proofs.YtackennmjmobdaaDoor.V
open Go.RowKit

/-- A slice that the call owns, in blocks from B on, holding the texts L. -/
def OwnT (w : World) (B : Nat) (v : Value) (L : List (List UInt8)) : Prop := w.ownsRow B 9 1 v L.length (L.map fun x => Value.string ⟨x.toArray⟩)
theorem OwnT.keep {w w' : World} {B : Nat} {v : Value} {L : List (List UInt8)} (h : OwnT w B v L) (hk : ∀ k, B ≤ k → k < w.heap.size → w'.heap[k]? = w.heap[k]?) : OwnT w' B v L :=
  ownsRow_keep h fun k hv => hk k (own_lt h hv).1 (own_lt h hv).2
theorem OwnT.below {w w' : World} {B : Nat} {v : Value} {L : List (List UInt8)} (h : OwnT w B v L) (hb : Below w.heap.size w w') : OwnT w' B v L :=
  h.keep (fun k _ h2 => hb.block k h2)
theorem ownT_made (w : World) (B n : Nat) (hB : B ≤ w.heap.size) (hn : n ≤ maxLen) : OwnT (w.alloc (.cells (madeCells #[.string ⟨#[]⟩] n) 9)) B (.slice (some ⟨w.heap.size, 0, none⟩) n n) ((List.range n).map fun _ => []) := by
  have h := World.rowIs_made w (.string ⟨#[]⟩) n 9
  obtain ⟨c, hb, hs, hc⟩ := h
  refine ⟨by simp, .inr ⟨w.heap.size, n, c, by simp, hB, hb, by simp, hn, by simp [hs], ?_⟩⟩
  apply List.ext_getElem
  · simp [hs]
  · intro i h1 h2
    simp only [List.length_map, List.length_range] at h2
    have := hc i h2
    simp [List.getElem_take]
    rw [Array.getElem?_eq_getElem (by omega)] at this
    exact Option.some.inj this
theorem OwnT.len {w : World} {B n cap : Nat} {a : Option Addr} {L : List (List UInt8)} (h : OwnT w B (.slice a n cap) L) : n = L.length := by
  obtain ⟨a', c, hv, _⟩ := own_form h
  injection hv
theorem OwnT.frozenAt {w : World} {B g n cap : Nat} {L : List (List UInt8)} (h : OwnT w B (.slice (some ⟨g, 0, none⟩) n cap) L) (j : Nat) : w.frozen? ⟨g, j, none⟩ = false := by
  have e := h.len
  subst e
  exact World.ownsRow.frozenAt h j
theorem OwnT.cellAt {w : World} {B g n cap : Nat} {L : List (List UInt8)} (h : OwnT w B (.slice (some ⟨g, 0, none⟩) n cap) L) (j : Nat) (hj : j < n) : w.cell? ⟨g, j, none⟩ = some (.string ⟨(L.getD j []).toArray⟩) := by
  have e := h.len
  subst e
  rw [World.ownsRow.cellAt h j (by omega)]
  simp [hj]
theorem OwnT.set {w : World} {B g n cap : Nat} {L : List (List UInt8)} (h : OwnT w B (.slice (some ⟨g, 0, none⟩) n cap) L) (i : Nat) (x : List UInt8) : OwnT (w.setCell ⟨g, i, none⟩ (.string ⟨x.toArray⟩)) B (.slice (some ⟨g, 0, none⟩) n cap) (L.set i x) := by
  have hn : n = L.length := by
    obtain ⟨a, c, hv, _⟩ := own_form h
    injection hv
  subst hn
  have := (World.ownsRow.stored h i (.string ⟨x.toArray⟩)).1
  unfold OwnT
  simpa [List.map_set] using this
/-- A slice of texts that is filled up to k. -/
def fillT (F : Nat → List UInt8) (n k : Nat) : List (List UInt8) := (List.range n).map fun i => if i < k then F i else []
theorem fillT_set (F : Nat → List UInt8) (n k : Nat) : (fillT F n k).set k (F k) = fillT F n (k + 1) := by
  unfold fillT
  apply List.ext_getElem
  · simp
  · intro j h1 h2
    simp only [List.length_map, List.length_range] at h2
    rw [List.getElem_set]
    simp only [List.getElem_map, List.getElem_range]
    by_cases e : k = j
    · subst e; simp
    · rw [if_neg e]
      by_cases e2 : j < k
      · rw [if_pos e2, if_pos (by omega)]
      · rw [if_neg e2, if_neg (by omega)]
theorem fillT_zero (F : Nat → List UInt8) (n : Nat) : fillT F n 0 = (List.range n).map fun _ => [] := by unfold fillT; simp
theorem fillT_all (F : Nat → List UInt8) (n : Nat) : fillT F n n = (List.range n).map F := by
  unfold fillT
  refine List.map_congr_left fun i hi => ?_
  rw [if_pos (List.mem_range.1 hi)]
theorem infoT : (Tryd.prog.info? 9).map (fun i => (i.zero, i.size, i.bytes)) = some (some (.string ⟨#[]⟩), 1, 16) := by kernel_rfl
theorem joinT_len (L : List (List UInt8)) (sep : List UInt8) (m : Nat) (h : ∀ x ∈ L, x.length ≤ m) : (Lib.join L sep).length ≤ (m + sep.length) * L.length := by
  cases L with
  | nil => simp [Lib.join_nil]
  | cons x r =>
    rw [Lib.join_cons, List.length_append, Lib.joinTail_length]
    have hl : ∀ r : List (List UInt8), (∀ x ∈ r, x.length ≤ m) → Lib.lens r ≤ m * r.length := by
      intro r
      induction r with
      | nil => intro _; simp [Lib.lens]
      | cons y r ih =>
        intro h
        have h1 := h y (by simp)
        have h2 := ih fun z hz => h z (by simp [hz])
        simp only [Lib.lens, List.map_cons, List.sum_cons, List.length_cons] at h2 ⊢
        rw [Nat.mul_succ]; omega
    have h1 := h x (by simp)
    have h2 := hl r fun z hz => h z (by simp [hz])
    rw [List.length_cons, Nat.mul_succ, Nat.add_mul]
    omega
theorem joinT (w : World) (B g n cap : Nat) (L : List (List UInt8)) (sep : List UInt8) (h : OwnT w B (.slice (some ⟨g, 0, none⟩) n cap) L) (hcap : n ≤ cap) (hn : n ≤ 1000000) (hlen : (Lib.join L sep).length ≤ 140737488355328) :
    Calls Tryd.prog 23 #[.slice (some ⟨g, 0, none⟩) n cap, .string ⟨sep.toArray⟩] w (TxtPost (Lib.join L sep) w) := by
  have hl := h.len
  have e : ((L.map fun x => (⟨x.toArray⟩ : ByteArray)).map (·.data.toList)) = L := by
    rw [List.map_map]; exact List.map_id'' (fun x => rfl) L
  have hk := Go.Proofs.Tryd.strings_Join g 0 cap (L.map fun x => ⟨x.toArray⟩) ⟨sep.toArray⟩ w (fun j x hj => by
    rw [List.getElem?_map] at hj
    have hj2 : j < L.length := by
      rcases Nat.lt_or_ge j L.length with h | h
      · exact h
      · rw [List.getElem?_eq_none h] at hj; cases hj
    rw [Nat.zero_add, h.cellAt j (by omega)]
    rw [List.getElem?_eq_getElem hj2] at hj
    simp at hj
    subst hj
    simp [hj2]) (own_lt h rfl).2 (by simp; omega) (by simp; omega) (by rw [e]; exact hlen)
  rw [List.length_map, ← hl, e] at hk
  refine hk.mono ?_
  rintro x w' ⟨rfl, hb⟩
  exact ⟨_, rfl, rfl, hb⟩
theorem vtxt_len (a : Int) : (vtxt a).length ≤ 20 := by
  unfold vtxt
  split
  · next h =>
    unfold txt
    split
    · simp
    · obtain ⟨b1, b2⟩ := M.isVal_bound h
      unfold Go.Lib.itoa
      split
      · have := dlen 18 a.natAbs (by omega)
        simp; omega
      · have := dlen 18 a.toNat (by omega)
        omega
  · simp
end Go.Proofs.YtackennmjmobdaaDoor.V
