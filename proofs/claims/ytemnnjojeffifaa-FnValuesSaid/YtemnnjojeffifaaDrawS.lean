/- Drawn lists of integers, and lists that a call appends to. -/
import Derived.Test.YtemnnjojeffifaaRows
import Derived.Test.YtemnnjojeffifaaMath1
import Derived.Test.YtemnnjojeffifaaList
import Derived.Test.YtemnnjojeffifaaHelp
import Derived.Test.YtemnnjojeffifaaRows1
import Derived.Test.YtemnnjojeffifaaDraw1
import Derived.Test.YtemnnjojeffifaaDraw2
import Derived.Test.YtemnnjojeffifaaDrawP
import Derived.WalkKit
import Derived.ProofKit
import Derived.WalkSmall
import Derived.Deep.QuietTactic
import Derived.BigQuiet
import Derived.BigRegion
import Derived.Deep.Draws
import Derived.Deep.OwnRows
import Derived.Lib.Hide
namespace Go.Proofs.Ytemnnjojeffifaa.V
open Go.RowKit

/-- A slice that the call owns, in blocks from B on, holding the integers l. -/
def Own (w : World) (B : Nat) (v : Value) (l : List Int) : Prop := w.ownsRow B 2 1 v l.length (l.map (Value.int .i64))

theorem Own.keep {w w' : World} {B : Nat} {v : Value} {l : List Int} (h : Own w B v l) (hk : ∀ k, B ≤ k → k < w.heap.size → w'.heap[k]? = w.heap[k]?) : Own w' B v l := by
  obtain ⟨h1, h2⟩ := h
  refine ⟨h1, ?_⟩
  rcases h2 with h2 | ⟨g, cap, cur, hv, hg, hh, r⟩
  · exact .inl h2
  · have hl : g < w.heap.size := by
      by_cases hl : g < w.heap.size
      · exact hl
      · rw [Array.getElem?_eq_none (by omega)] at hh; cases hh
    exact .inr ⟨g, cap, cur, hv, hg, by rw [hk g hg hl]; exact hh, r⟩
theorem Own.thr {w w' : World} {g : Nat} {v : Value} {l : List Int} (h : Own w (g + 1) v l) (ht : Thr g w w') : Own w' (g + 1) v l :=
  h.keep (fun k h1 h2 => ht.other k (by omega) h2)
theorem Own.below {w w' : World} {B : Nat} {v : Value} {l : List Int} (h : Own w B v l) (hb : Below w.heap.size w w') : Own w' B v l :=
  h.keep (fun k _ h2 => hb.block k h2)

/-- What an owned slice is: a slice of the integers l. -/
theorem Own.ints {w : World} {B : Nat} {v : Value} {l : List Int} (h : Own w B v l) (hm : l.length ≤ maxLen) : ∃ a cap, v = .slice a l.length cap ∧ Ints .i64 w a l.length l := by
  have h' := h
  obtain ⟨h1, h2⟩ := h
  rcases h2 with ⟨hv, h0⟩ | ⟨g, cap, cur, hv, hg, hh, r⟩
  · refine ⟨none, 0, by rw [h0]; exact hv, rfl, hm, .inl h0⟩
  · subst hv
    refine ⟨some ⟨g, 0, none⟩, cap, rfl, rfl, hm, ?_⟩
    by_cases h0 : l.length = 0
    · exact .inl h0
    · refine .inr ⟨g, 0, rfl, ?_, fun i hi => ?_⟩
      · by_cases hl : g < w.heap.size
        · exact hl
        · rw [Array.getElem?_eq_none (by omega)] at hh; cases hh
      · have := World.ownsRow.cellAt h' i (by omega)
        rw [Nat.zero_add, this]
        simp [hi]

theorem append1 (w : World) {ops : Array Oper} {rest : List Oper} {o : Oper} {a : Act} {Q : Exit → Act → World → Prop} (hgd : o.guard = none) (s x : Operand)
    (ho : o.op = .call { callee := .builtin .append, args := #[s, x], argTypes := #[27, 27] }) (B : Nat) (v : Value) (l : List Int) (y : Int) (hs : a.eval s = v) (hown : Own w B v l)
    (hx : a.eval x = .slice (some ⟨w.heap.size, 0, none⟩) 1 1) (hlen : l.length ≤ 100000) (hB : B ≤ w.heap.size)
    (h : ∀ v' w', Own w' B v' (l ++ [y]) → Below B w w' → wpList Try.prog ops Q rest (a.put o.dst v') w') :
    wpList Try.prog ops Q (o :: rest) a (w.alloc (.cells #[.int .i64 y] 2)) := by
  obtain ⟨i0, hi, hz0, hz1, hz2⟩ := info_parts info64
  have hown2 : (w.alloc (.cells #[.int .i64 y] 2)).ownsRow B 2 1 v l.length (l.map (Value.int .i64)) := World.ownsRow.alloc hown _
  refine wpList_append_own _ hgd s x 27 ho B 2 i0 (.int .i64 0) 1 8 Try.underlying27 hi hz0 hz1 hz2 rfl (by decide) v _ _ hs hown2 ⟨w.heap.size, 0, none⟩ 1 1 [.int .i64 y] hx rfl ?c1 ?c2 ?c3 ?c4 ?c5 ?_
  case c1 =>
    intro j u hj
    match j, hj with
    | 0, hj =>
      simp at hj
      subst hj
      simp [Addr.add]
  case c2 => intro u hu; simp at hu; subst hu; rfl
  case c3 => unfold maxLen; omega
  case c4 => omega
  case c5 => simp; omega
  · intro v' w' hown' hgrow _
    refine h v' w' ?_ (((Below.refl B w).alloc hB _).grown hgrow (by simp; omega) (fun k hk => ?_))
    · show w'.ownsRow B _ 1 v' (l ++ [y]).length ((l ++ [y]).map (Value.int .i64))
      simpa using hown'
    · exact (World.ownsRow.lt hown k hk).1

theorem made_ints (w : World) (n : Nat) (hn : n ≤ maxLen) : Ints .i64 (w.alloc (.cells (madeCells #[.int .i64 0] n) 2)) (some ⟨w.heap.size, 0, none⟩) n (List.replicate n 0) := by
  have hr := World.rowIs_made w (.int .i64 0) n 2
  refine ⟨by simp, hn, .inr ⟨_, _, rfl, by simp, fun i hi => ?_⟩⟩
  rw [Nat.zero_add, hr.cell hi]
  simp [hi]

theorem lit_ints (w : World) (l : List Int) (vs : Array Value) (T : Nat) (hv : vs = (l.map (Value.int .i64)).toArray) (hl : l.length ≤ 1000) : Ints .i64 (w.alloc (.cells vs T)) (some ⟨w.heap.size, 0, none⟩) l.length l := by
  subst hv
  refine ⟨rfl, by unfold maxLen; omega, .inr ⟨_, _, rfl, by simp, fun i hi => ?_⟩⟩
  have e : (w.alloc (.cells (l.map (Value.int .i64)).toArray T)).heap[w.heap.size]? = some (.cells (l.map (Value.int .i64)).toArray T (0, 0)) := by
    show (w.heap.push _)[w.heap.size]? = _
    simp
  simp only [World.cell?, e]
  simp [hi]

def ListPost (w : World) (e : Ending) (w' : World) : Prop :=
  ∃ (a : Option Addr) (n cap : Nat) (l : List Int), e = .returned (.slice a n cap) ∧ Ints .i64 w' a n l ∧ n ≤ 1000 ∧ Below w.heap.size w w'

set_option maxHeartbeats 1000000 in
theorem drawSumOf (a : Option Addr) (n cap : Nat) (w : World) (h : Bytes w a n) :
    Calls Try.prog 19 #[.slice a n cap] w (ListPost w) := by
  have HB := Lib.hid h
  clear h
  go_enter Try.func19, Try.ntmps19
  go_wp2_with fail
  refine (from_ _ _ _ _ HB.out).mono ?_
  rintro e w1 ⟨rfl, hs1, hb1⟩
  have l1 : w.heap.size < w1.heap.size := hs1.lt
  have HO1 : Hid (Own (w1.alloc (.cells #[] 2)) (w.heap.size + 1) (.slice (some ⟨w1.heap.size, 0, none⟩) 0 0) []) :=
    World.ownsRow_lit w1 #[] 0 (by omega) (by decide) rfl
  have HS1 := Lib.hid (hs1.alloc (.cells #[] 2))
  have HB1 := Lib.hid (hb1.alloc hb1.size (.cells #[] 2))
  clear hs1 hb1
  go_wp2_with fail
  refine (next _ _ _ (by decide) HS1.out).mono ?_
  rintro e w2 ⟨c, rfl, hc1, hc2, hs2, ht2⟩
  obtain ⟨c, rfl⟩ := Int.eq_ofNat_of_zero_le hc1
  have hc3 : c < 9 := by omega
  have HO2 := Lib.hid (HO1.out.thr ht2)
  have HS2 := Lib.hid hs2
  have HB2 := Lib.hid (HB1.out.trans ht2.below)
  clear hs2 ht2 hc2 HO1 HS1 HB1
  go_wp2_with fail
  go_loopw [4, 5] (fun v i wr => ∃ (k : Nat) (l : List Int), i = .int .i64 k ∧ k + l.length ≤ 9 ∧ Own wr (w.heap.size + 1) v l ∧ Src wr w.heap.size ∧ Below w.heap.size w wr) (fun _ i _ => (intOf i).toNat)
  case atStart => exact ⟨c, [], rfl, by simp; omega, HO2.out, HS2.out, HB2.out⟩
  case round =>
    obtain ⟨k, l, rfl, hkl, ho, hs, hb⟩ := hrel
    have HO := Lib.hid ho
    have HSr := Lib.hid hs
    have HBr := Lib.hid hb
    clear ho hs hb HO2 HS2 HB2
    by_cases hk : 0 < k
    · have hki : (0 : Int) < (k : Int) := by omega
      go_wp2_with fail
      refine (drawValue _ _ HSr.out).mono ?_
      rintro e w3 ⟨x, rfl, hx, hs3, ht3⟩
      have HO3 := Lib.hid (HO.out.thr ht3)
      have HS3 := Lib.hid hs3
      have HB3 := Lib.hid (HBr.out.trans ht3.below)
      clear hs3 ht3
      have l3 := HS3.out.lt
      go_wp2_with (at_builtin; refine append1 _ rfl (.tmp 15) (.tmp 18) rfl (w.heap.size + 1) _ l x rfl HO3.out rfl (by omega) (by omega) ?_)
      intro v' w4 ho4 hb4
      have HO4 := Lib.hid ho4
      have HS4 := Lib.hid (HS3.out.below hb4)
      have HB4 := Lib.hid (HB3.out.trans (hb4.mono (by omega)))
      clear ho4 hb4 HO3 HS3 HB3
      go_wp2
      go_roundw
      case rel => exact ⟨k - 1, l ++ [x], by go_num, by simp; omega, HO4.out, HS4.out, HB4.out⟩
      case measure => simp [intOf]; omega
    · obtain rfl : k = 0 := by omega
      go_wp2_with fail
      refine (next _ _ _ (by decide) HSr.out).mono ?_
      rintro e w3 ⟨d, rfl, hd1, hd2, hs3, ht3⟩
      have HO3 := Lib.hid (HO.out.thr ht3)
      have HS3 := Lib.hid hs3
      have HB3 := Lib.hid (HBr.out.trans ht3.below)
      clear hs3 ht3 hd2 HO HSr HBr
      by_cases h0 : d = 0
      · subst h0
        go_wp2_with fail
        refine (next _ _ _ (by decide) HS3.out).mono ?_
        rintro e w4 ⟨y, rfl, hy1, hy2, hs4, ht4⟩
        obtain ⟨y, rfl⟩ := Int.eq_ofNat_of_zero_le hy1
        have hy3 : y < 2 := by omega
        have HB4 := Lib.hid (HB3.out.trans ht4.below)
        clear hs4 ht4 hy2 HO3 HS3 HB3
        have hmk := run_make_row' (P := Try.prog) 27 2 (.int .i64 0) 8 Try.underlying27 info64 rfl .i64 .i64 (200 + y) (by omega) (by omega)
        have hcast : (200 : Int) + (y : Int) = ((200 + y : Nat) : Int) := by omega
        have HC := Lib.hid hcast
        have HM := Lib.hid hmk
        clear hcast hmk
        go_wp2_with fail
        rw [HC.out, HM.out]
        go_wp2
        go_ret
        exact ⟨_, 200 + y, _, List.replicate (200 + y) 0, rfl, made_ints _ _ (by unfold maxLen; omega), by omega, HB4.out.alloc HB4.out.size _⟩
      · have e0 : (d == 0) = false := by simpa using h0
        clear h0
        obtain ⟨ao, co, hv, hints⟩ := HO3.out.ints (by unfold maxLen; omega)
        subst hv
        have HI := Lib.hid hints
        clear hints
        go_wp2
        go_ret
        exact ⟨ao, l.length, co, l, rfl, HI.out, by omega, HB3.out⟩
end Go.Proofs.Ytemnnjojeffifaa.V
