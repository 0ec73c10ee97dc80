/- Texts laid together: Mark, Mat2, Spl. -/
import Derived.Test.YtgkceafhagfkhaaDoorRows
import Derived.Test.YtgkceafhagfkhaaDoorQd1
import Derived.Test.YtgkceafhagfkhaaDoorQd3
import Derived.Test.YtgkceafhagfkhaaDoorQd4
import Derived.Test.YtgkceafhagfkhaaDoorQd5
import Derived.WalkKit
import Derived.ProofKit
import Derived.WalkSmall
import Derived.Deep.QuietTactic
import Derived.BigQuiet
import Derived.BigRegion
import Derived.Deep.Draws
import Derived.Lib.Hide
import Derived.OpenShut
import Derived.Deep.OwnRows
import Derived.Test.YtgkceafhagfkhaaDoorQd7
import Derived.Test.YtgkceafhagfkhaaDoorQd2
import Derived.Lib.Split
import Derived.Lib.SplitLaws
set_option linter.unusedSimpArgs false
set_option linter.unusedVariables false
set_option linter.unusedSectionVars false
namespace Go.Proofs.YtgkceafhagfkhaaDoor.V
open Go.RowKit

/-- Only blocks of S may have changed, and no others were added. -/
structure Chg (S : Nat → Prop) (w w' : World) : Prop where
  os : w'.os = w.os
  tape : w'.tape = w.tape
  output : w'.output = w.output
  size : w'.heap.size = w.heap.size
  other : ∀ k, ¬ S k → w'.heap[k]? = w.heap[k]?

theorem Chg.refl (S : Nat → Prop) (w : World) : Chg S w w := ⟨rfl, rfl, rfl, rfl, fun _ _ => rfl⟩
theorem Chg.trans {S : Nat → Prop} {a b c : World} (h : Chg S a b) (k : Chg S b c) : Chg S a c :=
  ⟨k.os.trans h.os, k.tape.trans h.tape, k.output.trans h.output, k.size.trans h.size, fun i hi => (k.other i hi).trans (h.other i hi)⟩
theorem Chg.mono {S S' : Nat → Prop} {a b : World} (h : Chg S a b) (hs : ∀ k, S k → S' k) : Chg S' a b :=
  ⟨h.os, h.tape, h.output, h.size, fun k hk => h.other k (fun hh => hk (hs k hh))⟩
theorem Chg.below {S : Nat → Prop} {a b : World} {B : Nat} (h : Chg S a b) (hs : ∀ k, S k → B ≤ k) : Below B a b :=
  ⟨h.os, h.tape, h.output, Nat.le_of_eq h.size.symm, fun k hk => h.other k (fun hh => by have := hs k hh; omega)⟩
theorem Chg.set {S : Nat → Prop} {a b : World} (h : Chg S a b) {g i : Nat} (hg : S g) (v : Value) : Chg S a (b.setCell ⟨g, i, none⟩ v) :=
  ⟨h.os, h.tape, h.output, by have := h.size; simpa [World.setCell] using this, fun k hk => (Below.heap_setCell _ _ _ _ (by show k ≠ g; intro e; subst e; exact hk hg)).trans (h.other k hk)⟩
theorem Own.chg {S : Nat → Prop} {w w' : World} {B : Nat} {v : Value} {l : List Int} (h : Own w B v l) (hc : Chg S w w') (hs : ∀ k, v.ownBlock = some k → ¬ S k) : Own w' B v l :=
  ownsRow_keep h fun k hk => hc.other k (hs k hk)

/-- The blocks from lo up to hi are as they were. -/
def Same (lo hi : Nat) (w w' : World) : Prop := ∀ k, lo ≤ k → k < hi → w'.heap[k]? = w.heap[k]?
theorem Same.refl (lo hi : Nat) (w : World) : Same lo hi w w := fun _ _ _ => rfl
theorem Same.below {lo hi b : Nat} {a w w' : World} (h : Same lo hi a w) (hb : Below b w w') (hh : hi ≤ b) : Same lo hi a w' :=
  fun k h1 h2 => (hb.block k (by omega)).trans (h k h1 h2)
theorem Same.chg {S : Nat → Prop} {lo hi : Nat} {a w w' : World} (h : Same lo hi a w) (hc : Chg S w w') (hs : ∀ k, lo ≤ k → k < hi → ¬ S k) : Same lo hi a w' :=
  fun k h1 h2 => (hc.other k (hs k h1 h2)).trans (h k h1 h2)

/-- One row of an owned matrix is rewritten. -/
theorem OwnV.row {w w' : World} {B : Nat} {v : Value} {R : List (List Int)} {V : List Value} {l : List Int} (h : OwnV w B v R V) (i : Nat) (hi : i < R.length) (ho : Own w' B (V.getD i (.slice none 0 0)) l)
    (hc : Chg (fun k => (V.getD i (.slice none 0 0)).ownBlock = some k) w w') : OwnV w' B v (R.set i l) V := by
  obtain ⟨h1, h2, h3, h4, h5⟩ := h
  refine ⟨by simpa using h1, ?_, ?_, ?_, ?_⟩
  · rw [List.length_set]
    exact ownsRow_keep h2 fun k hk => hc.other k (fun e => h4 i hi k e hk)
  · intro j hj
    simp only [List.length_set] at hj
    rw [getD_set _ _ _ _ _ hi]
    by_cases e : j = i
    · subst e; rw [if_pos rfl]; exact ho
    · rw [if_neg e]
      exact (h3 j hj).chg hc (fun k hk e2 => h5 j i hj hi e k hk e2)
  · intro j hj
    simp only [List.length_set] at hj
    exact h4 j hj
  · intro j t hj ht
    simp only [List.length_set] at hj ht
    exact h5 j t hj ht

set_option maxRecDepth 100000 in
set_option maxHeartbeats 400000 in
theorem markInts (a : Option Addr) (n cap B : Nat) (l : List Int) (m : Int) (w : World) (h : Own w B (.slice a n cap) l) (hn : n ≤ 1048576) (h1 : 0 ≤ m) (h2 : m ≤ 40000000) :
    Calls Tryd.prog 36 #[.slice a n cap, .int .i64 m] w fun e w' => e = .returned (.int .i64 (m + n)) ∧ Own w' B (.slice a n cap) (M.iota m n) ∧ Chg (fun k => (Value.slice a n cap).ownBlock = some k) w w' := by
  have HO := Lib.hid h
  have HL := Lib.hid h.len
  have hgg := own_form h
  obtain ⟨a', c', hv, -, -, hg⟩ := hgg
  injection hv with e1 e2 e3
  subst e1 e3
  rw [← e2] at hg
  clear h e2
  go_enter Tryd.func36, Tryd.ntmps36
  go_wp2
  go_loopw [1, 5] (fun x i wr => ∃ k : Nat, k ≤ n ∧ i = .int .i64 k ∧ x = .int .i64 (m + k) ∧ Own wr B (.slice a n cap) ((List.range n).map fun j => if j < k then m + (j : Int) else l.getD j 0) ∧ Chg (fun k => (Value.slice a n cap).ownBlock = some k) w wr) (fun _ i _ => n - (intOf i).toNat)
  case atStart =>
    refine ⟨0, Nat.zero_le _, rfl, by simp, ?_, Chg.refl _ _⟩
    refine (congrArg (Own _ _ _) ?_).mp HO.out
    have hl := HL.out
    apply List.ext_getElem
    · simp [hl]
    · intro i h1 h2
      simp [h1]
  case round =>
    obtain ⟨k, hk, rfl, rfl, hrow, hb⟩ := hrel
    by_cases hlt : k < n
    · obtain ⟨g, rfl, hBg, hgl⟩ := hg (by omega)
      have hst : ∃ v, wr.cell? ⟨g, k, none⟩ = some v := ⟨_, hrow.cellAt k hlt⟩
      obtain ⟨v, hst⟩ := hst
      have hfz := hrow.frozenAt k
      have HR := Lib.hid hrow
      have HB := Lib.hid hb
      clear hrow hb hg
      have hb1 : 0 ≤ m + (k : Int) := by omega
      have hb2 : m + (k : Int) ≤ 50000000 := by omega
      go_wp2
      go_roundw
      case rel =>
        refine ⟨k + 1, by omega, by go_num, vi (by omega), ?_, HB.out.set rfl _⟩
        have := Own.set HR.out k (m + k)
        rw [M.map_set] at this
        refine (congrArg (Own _ _ _) (List.map_congr_left fun j hj => ?_)).mp this
        by_cases e : j = k
        · subst e; rw [if_pos rfl, if_pos (by omega)]
        · rw [if_neg e]
          by_cases e2 : j < k
          · rw [if_pos e2, if_pos (by omega)]
          · rw [if_neg e2, if_neg (by omega)]
      case measure => simp [intOf]; omega
    · have hkn : k = n := by omega
      subst hkn
      have HR := Lib.hid hrow
      have HB := Lib.hid hb
      clear hrow hb hg
      go_wp2
      go_ret
      refine ⟨rfl, (congrArg (Own _ _ _) ?_).mp HR.out, HB.out⟩
      unfold M.iota
      exact List.map_congr_left fun j hj => by rw [if_pos (List.mem_range.1 hj)]

set_option maxRecDepth 100000 in
set_option maxHeartbeats 400000 in
theorem heldInts (a : Option Addr) (n cap : Nat) (m : Int) (w : World) (h : Ints .i64 w a n (M.iota m n)) (hn : n ≤ 1048576) (h1 : 0 ≤ m) (h2 : m ≤ 40000000) :
    Calls Tryd.prog 37 #[.slice a n cap, .int .i64 m] w fun e w' => e = .returned (.int .i64 (m + n)) ∧ w = w' := by
  have HI := Lib.hid h
  clear h
  go_enter Tryd.func37, Tryd.ntmps37
  go_wp2
  go_loop [1, 5] (fun x i => ∃ k : Nat, k ≤ n ∧ i = .int .i64 k ∧ x = .int .i64 (m + k)) (fun _ i => n - (intOf i).toNat)
  case atStart => exact ⟨0, Nat.zero_le _, rfl, by simp⟩
  case round =>
    obtain ⟨k, hk, rfl, rfl⟩ := hrel
    by_cases hlt : k < n
    · obtain ⟨b, off, x, rfl, hbl, hx, hc⟩ := HI.out.at k hlt
      rw [M.iota_getD m n k hlt] at hx
      subst hx
      have hb1 : 0 ≤ m + (k : Int) := by omega
      have hb2 : m + (k : Int) ≤ 50000000 := by omega
      go_wp2
      go_round
      case rel => exact ⟨k + 1, by omega, by go_num, vi (by omega)⟩
      case measure => simp [intOf]; omega
    · have hkn : k = n := by omega
      subst hkn
      go_wp2
      go_ret
      exact ⟨rfl, rfl⟩

set_option maxRecDepth 100000 in
set_option maxHeartbeats 400000 in
theorem markIntss (a : Option Addr) (n cap B : Nat) (R : List (List Int)) (m : Int) (w0 w : World) (h0 : OwnM w0 B (.slice a n cap) R) (hb0 : Same B w0.heap.size w0 w) (hn : n ≤ 1048576) (hp : M.pre R R.length ≤ 1048576) (h1 : 0 ≤ m) (h2 : m + M.pre R R.length ≤ 40000000) :
    Calls Tryd.prog 17 #[.slice a n cap, .int .i64 m] w fun e w' => e = .returned (.int .i64 (m + M.pre R R.length)) ∧ OwnM w' B (.slice a n cap) (M.marks m R) ∧ Chg (fun k => B ≤ k ∧ k < w0.heap.size) w w' := by
  obtain ⟨V, hV0⟩ := h0
  have hV : OwnV w B (.slice a n cap) R V := by
    obtain ⟨h1, h2, h3, h4, h5⟩ := hV0
    exact ⟨h1, ownsRow_keep h2 (fun k hv => hb0 k (own_lt h2 hv).1 (own_lt h2 hv).2), fun i hi => (h3 i hi).keep hb0, h4, h5⟩
  have hlt : ∀ i, i < n → ∀ k, (V.getD i (.slice none 0 0)).ownBlock = some k → B ≤ k ∧ k < w0.heap.size := by
    obtain ⟨e1, e2, e3, e4, e5⟩ := hV0
    have hl := OwnM.len ⟨V, e1, e2, e3, e4, e5⟩
    exact fun i hi k hk => own_lt (e3 i (by omega)) hk
  have HT := Lib.hid hlt
  have HL := Lib.hid (OwnM.len ⟨V, hV⟩)
  have hgg := own_form hV.2.1
  obtain ⟨a', c', hv, -, -, hg⟩ := hgg
  injection hv with e1 e2 e3
  subst e1 e3
  rw [← e2] at hg
  have HV := Lib.hid hV
  clear hV hlt hV0 e2 hb0
  go_enter Tryd.func17, Tryd.ntmps17
  go_wp2
  go_loopw [1, 5] (fun x i wr => ∃ (k : Nat) (y : Int), k ≤ n ∧ i = .int .i64 k ∧ x = .int .i64 y ∧ y = m + M.pre R k ∧ OwnV wr B (.slice a n cap) (M.marked m R k) V ∧ Chg (fun k => B ≤ k ∧ k < w0.heap.size) w wr) (fun _ i _ => n - (intOf i).toNat)
  case atStart => exact ⟨0, m, Nat.zero_le _, rfl, rfl, by rw [M.pre_zero]; omega, by rw [M.marked_zero]; exact HV.out, Chg.refl _ _⟩
  case round =>
    obtain ⟨k, y, hk, rfl, rfl, hy, hO, hb⟩ := hrel
    have HO := Lib.hid hO
    have HB := Lib.hid hb
    by_cases hlt : k < n
    · have hkR : k < R.length := by have := HL.out; omega
      have hps := M.pre_succ R k hkR
      have hpm := M.pre_mono R (show k + 1 ≤ R.length by omega)
      have hle := M.len_le_pre R k hkR
      obtain ⟨g, rfl, hBg, hgl⟩ := hg (by omega)
      have hrow := HO.out.2.2.1 k (by simpa using hkR)
      obtain ⟨ra, rc, hrv, hrc, hrm, hrg⟩ := own_form hrow
      have hcell : wr.cell? ⟨g, k, none⟩ = some (V.getD k (.slice none 0 0)) := by
        have e : n = (M.marked m R k).length := by have := HL.out; simpa using this
        have h2 := HO.out.2.1
        rw [← e] at h2
        rw [World.ownsRow.cellAt h2 k (by omega)]
        have := HO.out.1
        simp [show k < V.length by omega]
      rw [M.marked_rowlen m R k k hkR] at hrv hrc
      rw [hrv] at hcell hrow
      rw [M.marked_at m R k k hkR, if_neg (Nat.lt_irrefl _)] at hrow
      have y1 : 0 ≤ y := by omega
      have y2 : y ≤ 40000000 := by omega
      generalize hLn : (R.getD k []).length = L at *
      have hLs : L ≤ 1048576 := by omega
      have HY := Lib.hid hy
      have HP := Lib.hid hps
      have HRV := Lib.hid hrv
      have HRW := Lib.hid hrow
      have HLn := Lib.hid hLn
      have HTk := Lib.hid (HT.out k hlt)
      clear hO hb hg hps hpm hle hrow hrv hrg hrc hy hLn
      go_wp2_with fail
      refine (markInts _ _ _ B _ _ _ HRW.out hLs y1 y2).mono ?_
      rintro e w1 ⟨rfl, ho1, hc1⟩
      have hN : OwnV w1 B (.slice (some ⟨g, 0, none⟩) n cap) (M.marked m R (k + 1)) V := by
        have := HO.out.row k (by simpa using hkR) (l := M.iota y L) (by rw [HRV.out]; exact ho1) (by rw [HRV.out]; exact hc1)
        rw [HY.out, ← HLn.out, M.marked_set m R k hkR] at this
        exact this
      have HN := Lib.hid hN
      have HB1 := Lib.hid (HB.out.trans (hc1.mono (fun j hj => HTk.out j (by rw [HRV.out]; exact hj))))
      clear ho1 hc1 hN
      go_wp2
      go_roundw
      case rel => exact ⟨k + 1, y + L, by omega, by go_num, rfl, by rw [HY.out, HP.out]; omega, HN.out, HB1.out⟩
      case measure => simp [intOf]; omega
    · have hkn : k = n := by omega
      subst hkn
      have HY := Lib.hid hy
      clear hO hb hg hy
      go_wp2
      go_ret
      have e := HL.out
      refine ⟨by rw [HY.out, ← e]; rfl, ⟨V, ?_⟩, HB.out⟩
      unfold M.marks
      rw [← e]
      exact HO.out

set_option maxRecDepth 100000 in
set_option maxHeartbeats 400000 in
theorem heldIntss (a : Option Addr) (n cap : Nat) (R : List (List Int)) (m : Int) (w : World) (h : Mat w a n (M.marks m R)) (hp : M.pre R R.length ≤ 1048576) (h1 : 0 ≤ m) (h2 : m + M.pre R R.length ≤ 40000000) :
    Calls Tryd.prog 18 #[.slice a n cap, .int .i64 m] w fun e w' => e = .returned (.int .i64 (m + M.pre R R.length)) ∧ w = w' := by
  have HL : Hid (n = R.length) := by have := h.1; unfold M.marks at this; show _ = _; simpa using this.symm
  have hm := h.2.1
  have HI := Lib.hid h
  clear h
  unfold maxLen at hm
  go_enter Tryd.func18, Tryd.ntmps18
  go_wp2
  go_loop [1, 5] (fun x i => ∃ (k : Nat) (y : Int), k ≤ n ∧ i = .int .i64 k ∧ x = .int .i64 y ∧ y = m + M.pre R k) (fun _ i => n - (intOf i).toNat)
  case atStart => exact ⟨0, m, Nat.zero_le _, rfl, rfl, by rw [M.pre_zero]; omega⟩
  case round =>
    obtain ⟨k, y, hk, rfl, rfl, hy⟩ := hrel
    by_cases hlt : k < n
    · have hkR : k < R.length := by have := HL.out; omega
      have hps := M.pre_succ R k hkR
      have hpm := M.pre_mono R (show k + 1 ≤ R.length by omega)
      have hle := M.len_le_pre R k hkR
      obtain ⟨b, off, ra, rc, L, l, rfl, hbl, hll, hc, hI⟩ := HI.out.at k hlt
      unfold M.marks at hll
      rw [M.marked_at m R _ k hkR, if_pos hkR] at hll
      have hLe : L = (R.getD k []).length := by have := hI.1; rw [hll] at this; simpa using this.symm
      rw [← hLe] at hps hle hll
      rw [hll, ← hy] at hI
      have y1 : 0 ≤ y := by omega
      have y2 : y ≤ 40000000 := by omega
      have hLs : L ≤ 1048576 := by omega
      have HY := Lib.hid hy
      have HP := Lib.hid hps
      have HII := Lib.hid hI
      have hyL : 0 ≤ y + (L : Int) := by omega
      clear hI hll hps hpm hle hLe hy
      go_wp2_with fail
      refine (heldInts _ _ _ _ _ HII.out hLs y1 y2).mono ?_
      rintro e w' ⟨rfl, rfl⟩
      go_wp2
      go_round
      case rel => exact ⟨k + 1, y + L, by omega, by go_num, rfl, by rw [HY.out, HP.out]; omega⟩
      case measure => simp [intOf]; omega
    · have hkn : k = n := by omega
      subst hkn
      have HY := Lib.hid hy
      clear hy
      go_wp2
      go_ret
      have e := HL.out
      exact ⟨by rw [HY.out, ← e]; rfl, rfl⟩

/-- The same, said for the exact laws: the number is named, and what changed lies in the blocks of the marked slice. -/
theorem markM (a : Option Addr) (n cap B : Nat) (R : List (List Int)) (m : Int) (w0 w : World) (h0 : OwnM w0 B (.slice a n cap) R) (hb0 : Same B w0.heap.size w0 w) (hn : n ≤ 1048576) (hp : M.pre R R.length ≤ 1048576) (h1 : 0 ≤ m) (h2 : m + M.pre R R.length ≤ 40000000) :
    Calls Tryd.prog 17 #[.slice a n cap, .int .i64 m] w fun e w' => ∃ y : Int, e = .returned (.int .i64 y) ∧ 0 ≤ y ∧ Hid (y = m + M.pre R R.length) ∧ OwnM w' B (.slice a n cap) (M.marks m R) ∧ Chg (fun k => B ≤ k ∧ k < w0.heap.size) w w' := by
  refine (markIntss _ _ _ _ _ _ _ _ h0 hb0 hn hp h1 h2).mono ?_
  rintro e w' ⟨rfl, ho, hc⟩
  exact ⟨_, rfl, by omega, rfl, ho, hc⟩
theorem heldM (a : Option Addr) (n cap : Nat) (R : List (List Int)) (m y : Int) (w : World) (h : Mat w a n (M.marks m R)) (hp : M.pre R R.length ≤ 1048576) (h1 : 0 ≤ m) (h2 : m + M.pre R R.length ≤ 40000000) (hy : y = m + M.pre R R.length) :
    Calls Tryd.prog 18 #[.slice a n cap, .int .i64 m] w fun e w' => e = .returned (.int .i64 y) ∧ w = w' := by
  subst hy
  exact heldIntss _ _ _ _ _ _ h hp h1 h2
theorem markV (a : Option Addr) (n cap B : Nat) (l : List Int) (m : Int) (w0 w : World) (h0 : Own w0 B (.slice a n cap) l) (hb0 : Same B w0.heap.size w0 w) (hn : n ≤ 1048576) (h1 : 0 ≤ m) (h2 : m ≤ 40000000) :
    Calls Tryd.prog 36 #[.slice a n cap, .int .i64 m] w fun e w' => ∃ y : Int, e = .returned (.int .i64 y) ∧ 0 ≤ y ∧ Hid (y = m + n) ∧ Own w' B (.slice a n cap) (M.iota m n) ∧ Chg (fun k => B ≤ k ∧ k < w0.heap.size) w w' := by
  refine (markInts _ _ _ B l _ _ (h0.keep hb0) hn h1 h2).mono ?_
  rintro e w' ⟨rfl, ho, hc⟩
  exact ⟨_, rfl, by omega, rfl, ho, hc.mono (fun k hk => own_lt h0 hk)⟩
theorem heldV (a : Option Addr) (n cap : Nat) (m y : Int) (w : World) (h : Ints .i64 w a n (M.iota m n)) (hn : n ≤ 1048576) (h1 : 0 ≤ m) (h2 : m ≤ 40000000) (hy : y = m + n) :
    Calls Tryd.prog 37 #[.slice a n cap, .int .i64 m] w fun e w' => e = .returned (.int .i64 y) ∧ w = w' := by
  subst hy
  exact heldInts _ _ _ _ _ h hn h1 h2
end Go.Proofs.YtgkceafhagfkhaaDoor.V

namespace Go.Proofs.YtgkceafhagfkhaaDoor.V
open Go.RowKit

set_option maxRecDepth 100000 in
set_option maxHeartbeats 400000 in
theorem eqIntss (a : Option Addr) (n cap : Nat) (R : List (List Int)) (a' : Option Addr) (n' cap' : Nat) (R' : List (List Int)) (w : World) (h : Mat w a n R) (h' : Mat w a' n' R') (heq : R = R') :
    Calls Tryd.prog 16 #[.slice a n cap, .slice a' n' cap'] w fun e w' => e = .returned (.bool true) ∧ ∃ q, w' = w.drewN q := by
  subst heq
  have HM := Lib.hid h
  have HM' := Lib.hid h'
  obtain ⟨hl, hm, -⟩ := h
  obtain ⟨hl', -, -⟩ := h'
  obtain rfl : n = n' := by omega
  unfold maxLen at hm
  have HL := Lib.hid hl
  clear hl hl'
  go_enter Tryd.func16, Tryd.ntmps16
  go_wp2
  go_loopw [5] (fun i wr => ∃ k : Nat, k ≤ n ∧ i = .int .i64 k ∧ ∃ q, wr = w.drewN q) (fun i _ => n - (intOf i).toNat)
  case atStart => exact ⟨0, Nat.zero_le _, rfl, 0, rfl⟩
  case round =>
    obtain ⟨k, hk, rfl, q, rfl⟩ := hrel
    by_cases hlt : k < n
    · obtain ⟨b, off, ra, rc, L, l, rfl, hbl, hll, hc, hI⟩ := HM.out.at k hlt
      obtain ⟨b', off', ra', rc', L', l', rfl, hbl', hll', hc', hI'⟩ := HM'.out.at k hlt
      have HI := Lib.hid hI
      have HI' := Lib.hid hI'
      have HE := Lib.hid (hll.trans hll'.symm)
      clear hI hI' hll hll' HM HM'
      have hki : (k : Int) < (n : Int) := by omega
      go_wp2
      go_quiet ((go_at_call 35; exact q_more (eqInts _ _ _ l _ _ _ l' _ HI.out HI'.out HE.out)))
      go_wp2
      go_roundw
      case rel => exact ⟨k + 1, by omega, by go_num, _, rfl⟩
      case measure => simp [intOf]; omega
    · have hkn : k = n := by omega
      subst hkn
      go_wp2
      go_ret
      exact ⟨rfl, q, rfl⟩

set_option maxRecDepth 100000 in
set_option maxHeartbeats 400000 in
theorem copyIntss (a : Option Addr) (n cap : Nat) (R : List (List Int)) (w : World) (h : Mat w a n R) (hs : n ≤ 1048576) (hr : M.pre R R.length ≤ 1048576) :
    Calls Tryd.prog 15 #[.slice a n cap] w fun e w' => e = .returned (.slice (some ⟨w.heap.size, 0, none⟩) n n) ∧ OwnM w' w.heap.size (.slice (some ⟨w.heap.size, 0, none⟩) n n) R ∧ Below w.heap.size w w' := by
  have HM := Lib.hid h
  obtain ⟨hl, hm, -⟩ := h
  have hm2 := hm
  unfold maxLen at hm
  have HL := Lib.hid hl
  have HR := Lib.hid hr
  clear hl hr
  have hmk := run_make_row' (P := Tryd.prog) 24 39 (.slice none 0 0) 24 Tryd.underlying24 infoS64 rfl .i64 .i64 n (by omega) (by omega)
  go_enter Tryd.func15, Tryd.ntmps15
  go_wp2
  clear hmk
  go_loopw [4] (fun i wr => ∃ k : Nat, k ≤ n ∧ i = .int .i64 k ∧ OwnM wr w.heap.size (.slice (some ⟨w.heap.size, 0, none⟩) n n) ((List.range n).map fun j => if j < k then R.getD j [] else []) ∧ Below w.heap.size w wr) (fun i _ => n - (intOf i).toNat)
  case atStart =>
    refine ⟨0, Nat.zero_le _, rfl, ?_, b_alloc _ _⟩
    refine (congrArg (OwnM _ _ _) ?_).mp (ownM_made w _ n (Nat.le_refl _) hm2)
    apply List.ext_getElem
    · simp
    · intro i h1 h2; simp
  case round =>
    obtain ⟨k, hk, rfl, hO, hb⟩ := hrel
    have HO := Lib.hid hO
    have HB := Lib.hid hb
    clear hO hb
    by_cases hlt : k < n
    · obtain ⟨b, off, ra, rc, L, l, rfl, hbl, hll, hc, hI⟩ := (HM.out.below HB.out).at k hlt
      have HI := Lib.hid hI
      have HLL := Lib.hid hll
      have hLs : L ≤ 1048576 := by
        have e1 := M.len_le_pre R k (by have := HL.out; omega)
        have e2 := HR.out
        have e3 := HI.out.1
        rw [HLL.out] at e3
        omega
      clear hI hll
      go_wp2_with fail
      refine (copyInts _ _ _ l _ HI.out hLs).mono ?_
      rintro e w1 ⟨rfl, ho1, hb1⟩
      have hg := HO.out.lt rfl
      have hst : ∃ v, w1.cell? ⟨w.heap.size, k, none⟩ = some v := by
        obtain ⟨v, hv⟩ := HO.out.outer k hlt
        exact ⟨v, by rw [hb1.cell (p := ⟨w.heap.size, k, none⟩) hg]; exact hv⟩
      obtain ⟨v, hst⟩ := hst
      have hfz : w1.frozen? ⟨w.heap.size, k, none⟩ = false := by rw [hb1.frozen (p := ⟨w.heap.size, k, none⟩) hg]; exact HO.out.outerFz k
      have HN := Lib.hid (HO.out.setRow hb1 HB.out.size ho1 k hlt)
      have HB1 := Lib.hid (bnext HB.out hb1)
      clear ho1 hb1 hg
      go_wp2
      go_roundw
      case rel =>
        refine ⟨k + 1, by omega, by go_num, ?_, HB1.out.setCell (Nat.le_refl _) _⟩
        refine (congrArg (OwnM _ _ _) ?_).mp HN.out
        apply List.ext_getElem
        · simp
        · intro j h1 h2
          simp only [List.length_map, List.length_range] at h2
          rw [List.getElem_set]
          simp only [List.getElem_map, List.getElem_range]
          by_cases e : k = j
          · subst e; rw [if_pos rfl, if_pos (by omega), HLL.out]
          · rw [if_neg e]
            by_cases e2 : j < k
            · rw [if_pos e2, if_pos (by omega)]
            · rw [if_neg e2, if_neg (by omega)]
      case measure => simp [intOf]; omega
    · have hkn : k = n := by omega
      subst hkn
      go_wp2
      go_ret
      refine ⟨rfl, ?_, HB.out⟩
      refine (congrArg (OwnM _ _ _) ?_).mp HO.out
      have hl := HL.out
      apply List.ext_getElem
      · simp [hl]
      · intro i h1 h2
        simp [show i < k by omega, h2]

/-- The same, said for the exact laws. -/
theorem eqM (a : Option Addr) (n cap : Nat) (R : List (List Int)) (a' : Option Addr) (n' cap' : Nat) (w : World) (h : Mat w a n R) (h' : Mat w a' n' R) :
    Calls Tryd.prog 16 #[.slice a n cap, .slice a' n' cap'] w fun e w' => e = .returned (.bool true) ∧ Below w.heap.size w w' := by
  refine (eqIntss _ _ _ _ _ _ _ _ _ h h' rfl).mono ?_
  rintro e w' ⟨rfl, q, rfl⟩
  exact ⟨rfl, b_draws _ _⟩
theorem eqV (a : Option Addr) (n cap : Nat) (l : List Int) (a' : Option Addr) (n' cap' : Nat) (w : World) (h : Ints .i64 w a n l) (h' : Ints .i64 w a' n' l) :
    Calls Tryd.prog 35 #[.slice a n cap, .slice a' n' cap'] w fun e w' => e = .returned (.bool true) ∧ Below w.heap.size w w' := by
  refine (eqInts _ _ _ _ _ _ _ _ _ h h' rfl).mono ?_
  rintro e w' ⟨rfl, q, rfl⟩
  exact ⟨rfl, b_draws _ _⟩
end Go.Proofs.YtgkceafhagfkhaaDoor.V

namespace Go.Proofs.YtgkceafhagfkhaaDoor.M
open Go.Lib

def splitL (c : UInt8) : List UInt8 → List (List UInt8)
  | [] => [[]]
  | b :: l => if b = c then [] :: splitL c l else (b :: (splitL c l).headD []) :: (splitL c l).tail
theorem splitL_ne (c : UInt8) (l : List UInt8) : splitL c l ≠ [] := by
  cases l with
  | nil => simp [splitL]
  | cons b l => unfold splitL; split <;> simp
theorem splitL_miss (c : UInt8) (l : List UInt8) (h : ∀ x ∈ l, x ≠ c) : splitL c l = [l] := by
  induction l with
  | nil => rfl
  | cons b l ih =>
    rw [splitL, if_neg (h b (by simp)), ih (fun x hx => h x (by simp [hx]))]
    rfl
theorem splitL_hit (c : UInt8) (p r : List UInt8) (h : ∀ x ∈ p, x ≠ c) : splitL c (p ++ c :: r) = p :: splitL c r := by
  induction p with
  | nil => rw [List.nil_append, splitL, if_pos rfl]
  | cons b l ih =>
    rw [List.cons_append, splitL, if_neg (h b (by simp)), ih (fun x hx => h x (by simp [hx]))]
    rfl
theorem splitL_len (c : UInt8) (l : List UInt8) : (splitL c l).length ≤ l.length + 1 := by
  induction l with
  | nil => simp [splitL]
  | cons b l ih =>
    unfold splitL
    have := List.length_pos_iff.2 (splitL_ne c l)
    split
    · simp only [List.length_cons]; omega
    · simp only [List.length_cons, List.length_tail]; omega
theorem occ_one (l : List UInt8) (c : UInt8) (j : Nat) : occAt l [c] j = decide (l[j]? = some c) := by
  unfold occAt
  rw [← List.head?_drop]
  cases l.drop j with
  | nil => simp
  | cons b r =>
    by_cases e : b = c
    · subst e; simp [List.isPrefixOf]
    · have e' : ¬ (c = b) := fun h => e h.symm
      simp [List.isPrefixOf, e, e']
theorem index_one (l : List UInt8) (c : UInt8) : (index l [c] = -1 ∧ ∀ x ∈ l, x ≠ c) ∨ ∃ i : Nat, index l [c] = i ∧ i < l.length ∧ l = l.take i ++ c :: l.drop (i + 1) ∧ ∀ x ∈ l.take i, x ≠ c := by
  rcases index_spec l [c] with ⟨h, hj⟩ | ⟨i, h, hi, ho, hn⟩
  · refine .inl ⟨h, fun x hx e => ?_⟩
    obtain ⟨j, hj1, hj2⟩ := List.getElem_of_mem hx
    have := hj j (by omega)
    rw [occ_one, List.getElem?_eq_getElem hj1, hj2, e] at this
    simp at this
  · rw [occ_one] at ho
    have ho := of_decide_eq_true ho
    have hlt : i < l.length := by
      rcases Nat.lt_or_ge i l.length with h | h
      · exact h
      · rw [List.getElem?_eq_none h] at ho; cases ho
    refine .inr ⟨i, h, hlt, ?_, fun x hx e => ?_⟩
    · rw [List.getElem?_eq_getElem hlt] at ho
      have ho := Option.some.inj ho
      conv => lhs; rw [← List.take_append_drop i l, List.drop_eq_getElem_cons hlt, ho]
    · obtain ⟨j, hj1, hj2⟩ := List.getElem_of_mem hx
      rw [List.length_take] at hj1
      have := hn j (by omega)
      rw [occ_one, List.getElem?_eq_getElem (by omega)] at this
      rw [List.getElem_take] at hj2
      rw [hj2, e] at this
      simp at this
theorem splitK_eq (c : UInt8) : ∀ (k : Nat) (l : List UInt8), (splitL c l).length ≤ k + 1 → splitK [c] 0 k l = splitL c l := by
  intro k
  induction k with
  | zero =>
    intro l h
    rcases index_one l c with ⟨-, hj⟩ | ⟨i, -, -, hl, hp⟩
    · rw [splitL_miss c l hj]; rfl
    · rw [hl, splitL_hit c _ _ hp] at h
      have := List.length_pos_iff.2 (splitL_ne c (l.drop (i + 1)))
      simp only [List.length_cons] at h
      omega
  | succ k ih =>
    intro l h
    rcases index_one l c with ⟨hi, hj⟩ | ⟨i, hi, hlt, hl, hp⟩
    · rw [splitL_miss c l hj, splitK, if_pos (by rw [hi]; rfl)]
    · have e2 : splitL c l = l.take i :: splitL c (l.drop (i + 1)) := by
        conv => lhs; rw [hl, splitL_hit c _ _ hp]
      have e : (index l [c]).toNat = i := by omega
      rw [e2, splitK, if_neg (by rw [hi]; simp), e, Nat.add_zero, List.length_singleton, ih]
      rw [e2] at h
      simp only [List.length_cons] at h
      omega
theorem splitK_long (c : UInt8) : ∀ (k : Nat) (l : List UInt8), k + 1 < (splitL c l).length → (splitK [c] 0 k l).length = k + 1 := by
  intro k
  induction k with
  | zero => intro l _; rfl
  | succ k ih =>
    intro l h
    rcases index_one l c with ⟨hi, hj⟩ | ⟨i, hi, hlt, hl, hp⟩
    · rw [splitL_miss c l hj] at h; simp at h
    · have e2 : splitL c l = l.take i :: splitL c (l.drop (i + 1)) := by
        conv => lhs; rw [hl, splitL_hit c _ _ hp]
      have e : (index l [c]).toNat = i := by omega
      rw [e2] at h
      simp only [List.length_cons] at h
      rw [splitK, if_neg (by rw [hi]; simp), e, Nat.add_zero, List.length_singleton, List.length_cons, ih _ (by omega)]

/-- What strings.SplitN hands out at 11. -/
def cutN (c : UInt8) (l : List UInt8) : List (List UInt8) := splitK [c] 0 (min 11 (l.length + 1) - 1) l
theorem cutN_or (c : UInt8) (l : List UInt8) : cutN c l = splitL c l ∨ ((cutN c l).length = 11 ∧ 11 < (splitL c l).length) := by
  have h := splitL_len c l
  unfold cutN
  by_cases h1 : (splitL c l).length ≤ 11
  · exact .inl (splitK_eq c _ _ (by omega))
  · refine .inr ⟨?_, by omega⟩
    rw [splitK_long c _ _ (by omega)]
    omega
theorem cutN_len (c : UInt8) (l : List UInt8) : (cutN c l).length ≤ 11 := by
  rcases cutN_or c l with h | h
  · by_cases h1 : (splitL c l).length ≤ 11
    · rw [h]; exact h1
    · have := splitK_long c (min 11 (l.length + 1) - 1) l (by have := splitL_len c l; omega)
      unfold cutN; omega
  · omega

/-- A row that is read from its pieces. -/
def rowOf (P : List (List UInt8)) : List Int × Bool := if P.all (fun t => (readM t).2) then (P.map (fun t => (readM t).1), true) else ([], false)
/-- A matrix that is read from its rows. -/
def matOf (f : List UInt8 → List Int × Bool) (P : List (List UInt8)) : List (List Int) × Bool :=
  if P.all (fun t => (f t).2) && isMat (P.map fun t => (f t).1) then (P.map (fun t => (f t).1), true) else ([], false)
def rowS (l : List UInt8) : List Int × Bool := rowOf (splitL 44 l)
def rowI (l : List UInt8) : List Int × Bool := rowOf (cutN 44 l)
def readS (l : List UInt8) : List (List Int) × Bool := matOf rowS (splitL 59 l)
def readMI (l : List UInt8) : List (List Int) × Bool := matOf rowI (cutN 59 l)

def badRow (r : List Int × Bool) : Prop := r.2 = true → 10 < r.1.length
theorem rowOf_bad {P : List (List UInt8)} (h : 10 < P.length) : badRow (rowOf P) := by
  intro h2
  unfold rowOf at h2 ⊢
  split at h2
  · rw [if_pos (by assumption)]; simpa using h
  · cases h2
theorem rows_or (t : List UInt8) : rowI t = rowS t ∨ (badRow (rowI t) ∧ badRow (rowS t)) := by
  rcases cutN_or 44 t with h | ⟨h1, h2⟩
  · exact .inl (by rw [rowI, rowS, h])
  · exact .inr ⟨rowOf_bad (by omega), rowOf_bad (by omega)⟩
theorem matOf_bad {f : List UInt8 → List Int × Bool} {P : List (List UInt8)} {t : List UInt8} (ht : t ∈ P) (h : badRow (f t)) : matOf f P = ([], false) := by
  unfold matOf
  rw [if_neg]
  intro hc
  rw [Bool.and_eq_true] at hc
  obtain ⟨h1, h2⟩ := hc
  have h3 := h (List.all_eq_true.1 h1 t ht)
  unfold isMat at h2
  rw [Bool.and_eq_true] at h2
  have h4 := List.all_eq_true.1 h2.2 (f t).1 (List.mem_map.2 ⟨t, ht, rfl⟩)
  simp [isVec] at h4
  omega
theorem matOf_long {f : List UInt8 → List Int × Bool} {P : List (List UInt8)} (h : 10 < P.length) : matOf f P = ([], false) := by
  unfold matOf
  rw [if_neg]
  intro hc
  rw [Bool.and_eq_true] at hc
  have h2 := hc.2
  simp [isMat] at h2
  omega
theorem readM_eq (l : List UInt8) : readMI l = readS l := by
  unfold readMI readS
  rcases cutN_or 59 l with h | ⟨h1, h2⟩
  · rw [h]
    by_cases hb : ∃ t ∈ splitL 59 l, badRow (rowI t) ∧ badRow (rowS t)
    · obtain ⟨t, ht, b1, b2⟩ := hb
      rw [matOf_bad ht b1, matOf_bad ht b2]
    · have he : ∀ t ∈ splitL 59 l, rowI t = rowS t := fun t ht => by
        rcases rows_or t with e | e
        · exact e
        · exact absurd ⟨t, ht, e⟩ hb
      have e1 : (splitL 59 l).map (fun t => (rowI t).1) = (splitL 59 l).map (fun t => (rowS t).1) := List.map_congr_left fun t ht => by rw [he t ht]
      have e2 : (splitL 59 l).all (fun t => (rowI t).2) = (splitL 59 l).all (fun t => (rowS t).2) := by
        rw [Bool.eq_iff_iff, List.all_eq_true, List.all_eq_true]
        exact ⟨fun h t ht => by rw [← he t ht]; exact h t ht, fun h t ht => by rw [he t ht]; exact h t ht⟩
      unfold matOf
      rw [e1, e2]
  · rw [matOf_long (by omega), matOf_long (by omega)]
theorem readS_ok (l : List UInt8) : okM (readS l).1 := by
  unfold readS matOf
  split
  · next h =>
    rw [Bool.and_eq_true] at h
    exact .inr h.2
  · exact .inl rfl
end Go.Proofs.YtgkceafhagfkhaaDoor.M
