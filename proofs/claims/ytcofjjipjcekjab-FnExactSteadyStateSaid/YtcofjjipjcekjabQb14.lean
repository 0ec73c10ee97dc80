/- Texts laid together: Mark, Hv3, Vals2, Spe, Ent, Ipe. -/
import Derived.Test.YtcofjjipjcekjabRows
import Derived.Test.YtcofjjipjcekjabQb1
import Derived.Test.YtcofjjipjcekjabQb2
import Derived.WalkKit
import Derived.ProofKit
import Derived.WalkSmall
import Derived.Deep.QuietTactic
import Derived.BigQuiet
import Derived.BigRegion
import Derived.Deep.Draws
import Derived.Lib.Hide
import Derived.OpenShut
import Derived.Deep.OwnRows
import Derived.Test.YtcofjjipjcekjabQb13
import Derived.Test.YtcofjjipjcekjabQb6
import Derived.Maps.AppendAt
import Derived.Test.YtcofjjipjcekjabQb9
import Derived.Test.YtcofjjipjcekjabQb12
import Derived.StillTailTactics
set_option linter.unusedSimpArgs false
set_option linter.unusedVariables false
set_option linter.unusedSectionVars false
namespace Go.Proofs.Ytcofjjipjcekjab.V
open Go.RowKit

/-- Only blocks of S may have changed, and no others were added. -/
structure Chg (S : Nat → Prop) (w w' : World) : Prop where
  os : w'.os = w.os
  tape : w'.tape = w.tape
  output : w'.output = w.output
  size : w'.heap.size = w.heap.size
  other : ∀ k, ¬ S k → w'.heap[k]? = w.heap[k]?

theorem Chg.refl (S : Nat → Prop) (w : World) : Chg S w w := ⟨rfl, rfl, rfl, rfl, fun _ _ => rfl⟩
theorem Chg.trans {S : Nat → Prop} {a b c : World} (h : Chg S a b) (k : Chg S b c) : Chg S a c :=
  ⟨k.os.trans h.os, k.tape.trans h.tape, k.output.trans h.output, k.size.trans h.size, fun i hi => (k.other i hi).trans (h.other i hi)⟩
theorem Chg.mono {S S' : Nat → Prop} {a b : World} (h : Chg S a b) (hs : ∀ k, S k → S' k) : Chg S' a b :=
  ⟨h.os, h.tape, h.output, h.size, fun k hk => h.other k (fun hh => hk (hs k hh))⟩
theorem Chg.below {S : Nat → Prop} {a b : World} {B : Nat} (h : Chg S a b) (hs : ∀ k, S k → B ≤ k) : Below B a b :=
  ⟨h.os, h.tape, h.output, Nat.le_of_eq h.size.symm, fun k hk => h.other k (fun hh => by have := hs k hh; omega)⟩
theorem Chg.set {S : Nat → Prop} {a b : World} (h : Chg S a b) {g i : Nat} (hg : S g) (v : Value) : Chg S a (b.setCell ⟨g, i, none⟩ v) :=
  ⟨h.os, h.tape, h.output, by have := h.size; simpa [World.setCell] using this, fun k hk => (Below.heap_setCell _ _ _ _ (by show k ≠ g; intro e; subst e; exact hk hg)).trans (h.other k hk)⟩
theorem Own.chg {S : Nat → Prop} {w w' : World} {B : Nat} {v : Value} {l : List Int} (h : Own w B v l) (hc : Chg S w w') (hs : ∀ k, v.ownBlock = some k → ¬ S k) : Own w' B v l :=
  ownsRow_keep h fun k hk => hc.other k (hs k hk)

/-- The blocks from lo up to hi are as they were. -/
def Same (lo hi : Nat) (w w' : World) : Prop := ∀ k, lo ≤ k → k < hi → w'.heap[k]? = w.heap[k]?
theorem Same.refl (lo hi : Nat) (w : World) : Same lo hi w w := fun _ _ _ => rfl
theorem Same.below {lo hi b : Nat} {a w w' : World} (h : Same lo hi a w) (hb : Below b w w') (hh : hi ≤ b) : Same lo hi a w' :=
  fun k h1 h2 => (hb.block k (by omega)).trans (h k h1 h2)
theorem Same.chg {S : Nat → Prop} {lo hi : Nat} {a w w' : World} (h : Same lo hi a w) (hc : Chg S w w') (hs : ∀ k, lo ≤ k → k < hi → ¬ S k) : Same lo hi a w' :=
  fun k h1 h2 => (hc.other k (hs k h1 h2)).trans (h k h1 h2)

/-- One row of an owned matrix is rewritten. -/
theorem OwnV.row {w w' : World} {B : Nat} {v : Value} {R : List (List Int)} {V : List Value} {l : List Int} (h : OwnV w B v R V) (i : Nat) (hi : i < R.length) (ho : Own w' B (V.getD i (.slice none 0 0)) l)
    (hc : Chg (fun k => (V.getD i (.slice none 0 0)).ownBlock = some k) w w') : OwnV w' B v (R.set i l) V := by
  obtain ⟨h1, h2, h3, h4, h5⟩ := h
  refine ⟨by simpa using h1, ?_, ?_, ?_, ?_⟩
  · rw [List.length_set]
    exact ownsRow_keep h2 fun k hk => hc.other k (fun e => h4 i hi k e hk)
  · intro j hj
    simp only [List.length_set] at hj
    rw [getD_set _ _ _ _ _ hi]
    by_cases e : j = i
    · subst e; rw [if_pos rfl]; exact ho
    · rw [if_neg e]
      exact (h3 j hj).chg hc (fun k hk e2 => h5 j i hj hi e k hk e2)
  · intro j hj
    simp only [List.length_set] at hj
    exact h4 j hj
  · intro j t hj ht
    simp only [List.length_set] at hj ht
    exact h5 j t hj ht

set_option maxRecDepth 100000 in
set_option maxHeartbeats 400000 in
theorem markInts (a : Option Addr) (n cap B : Nat) (l : List Int) (m : Int) (w : World) (h : Own w B (.slice a n cap) l) (hn : n ≤ 1048576) (h1 : 0 ≤ m) (h2 : m ≤ 40000000) :
    Calls Try.prog 38 #[.slice a n cap, .int .i64 m] w fun e w' => e = .returned (.int .i64 (m + n)) ∧ Own w' B (.slice a n cap) (M.iota m n) ∧ Chg (fun k => (Value.slice a n cap).ownBlock = some k) w w' := by
  have HO := Lib.hid h
  have HL := Lib.hid h.len
  have hgg := own_form h
  obtain ⟨a', c', hv, -, -, hg⟩ := hgg
  injection hv with e1 e2 e3
  subst e1 e3
  rw [← e2] at hg
  clear h e2
  go_enter Try.func38, Try.ntmps38
  go_wp2
  go_loopw [1, 5] (fun x i wr => ∃ k : Nat, k ≤ n ∧ i = .int .i64 k ∧ x = .int .i64 (m + k) ∧ Own wr B (.slice a n cap) ((List.range n).map fun j => if j < k then m + (j : Int) else l.getD j 0) ∧ Chg (fun k => (Value.slice a n cap).ownBlock = some k) w wr) (fun _ i _ => n - (intOf i).toNat)
  case atStart =>
    refine ⟨0, Nat.zero_le _, rfl, by simp, ?_, Chg.refl _ _⟩
    refine (congrArg (Own _ _ _) ?_).mp HO.out
    have hl := HL.out
    apply List.ext_getElem
    · simp [hl]
    · intro i h1 h2
      simp [h1]
  case round =>
    obtain ⟨k, hk, rfl, rfl, hrow, hb⟩ := hrel
    by_cases hlt : k < n
    · obtain ⟨g, rfl, hBg, hgl⟩ := hg (by omega)
      have hst : ∃ v, wr.cell? ⟨g, k, none⟩ = some v := ⟨_, hrow.cellAt k hlt⟩
      obtain ⟨v, hst⟩ := hst
      have hfz := hrow.frozenAt k
      have HR := Lib.hid hrow
      have HB := Lib.hid hb
      clear hrow hb hg
      have hb1 : 0 ≤ m + (k : Int) := by omega
      have hb2 : m + (k : Int) ≤ 50000000 := by omega
      go_wp2
      go_roundw
      case rel =>
        refine ⟨k + 1, by omega, by go_num, vi (by omega), ?_, HB.out.set rfl _⟩
        have := Own.set HR.out k (m + k)
        rw [M.map_set] at this
        refine (congrArg (Own _ _ _) (List.map_congr_left fun j hj => ?_)).mp this
        by_cases e : j = k
        · subst e; rw [if_pos rfl, if_pos (by omega)]
        · rw [if_neg e]
          by_cases e2 : j < k
          · rw [if_pos e2, if_pos (by omega)]
          · rw [if_neg e2, if_neg (by omega)]
      case measure => simp [intOf]; omega
    · have hkn : k = n := by omega
      subst hkn
      have HR := Lib.hid hrow
      have HB := Lib.hid hb
      clear hrow hb hg
      go_wp2
      go_ret
      refine ⟨rfl, (congrArg (Own _ _ _) ?_).mp HR.out, HB.out⟩
      unfold M.iota
      exact List.map_congr_left fun j hj => by rw [if_pos (List.mem_range.1 hj)]

set_option maxRecDepth 100000 in
set_option maxHeartbeats 400000 in
theorem heldInts (a : Option Addr) (n cap : Nat) (m : Int) (w : World) (h : Ints .i64 w a n (M.iota m n)) (hn : n ≤ 1048576) (h1 : 0 ≤ m) (h2 : m ≤ 40000000) :
    Calls Try.prog 49 #[.slice a n cap, .int .i64 m] w fun e w' => e = .returned (.int .i64 (m + n)) ∧ w = w' := by
  have HI := Lib.hid h
  clear h
  go_enter Try.func49, Try.ntmps49
  go_wp2
  go_loop [1, 5] (fun x i => ∃ k : Nat, k ≤ n ∧ i = .int .i64 k ∧ x = .int .i64 (m + k)) (fun _ i => n - (intOf i).toNat)
  case atStart => exact ⟨0, Nat.zero_le _, rfl, by simp⟩
  case round =>
    obtain ⟨k, hk, rfl, rfl⟩ := hrel
    by_cases hlt : k < n
    · obtain ⟨b, off, x, rfl, hbl, hx, hc⟩ := HI.out.at k hlt
      rw [M.iota_getD m n k hlt] at hx
      subst hx
      have hb1 : 0 ≤ m + (k : Int) := by omega
      have hb2 : m + (k : Int) ≤ 50000000 := by omega
      go_wp2
      go_round
      case rel => exact ⟨k + 1, by omega, by go_num, vi (by omega)⟩
      case measure => simp [intOf]; omega
    · have hkn : k = n := by omega
      subst hkn
      go_wp2
      go_ret
      exact ⟨rfl, rfl⟩

set_option maxRecDepth 100000 in
set_option maxHeartbeats 400000 in
theorem markIntss (a : Option Addr) (n cap B : Nat) (R : List (List Int)) (m : Int) (w0 w : World) (h0 : OwnM w0 B (.slice a n cap) R) (hb0 : Same B w0.heap.size w0 w) (hn : n ≤ 1048576) (hp : M.pre R R.length ≤ 1048576) (h1 : 0 ≤ m) (h2 : m + M.pre R R.length ≤ 40000000) :
    Calls Try.prog 37 #[.slice a n cap, .int .i64 m] w fun e w' => e = .returned (.int .i64 (m + M.pre R R.length)) ∧ OwnM w' B (.slice a n cap) (M.marks m R) ∧ Chg (fun k => B ≤ k ∧ k < w0.heap.size) w w' := by
  obtain ⟨V, hV0⟩ := h0
  have hV : OwnV w B (.slice a n cap) R V := by
    obtain ⟨h1, h2, h3, h4, h5⟩ := hV0
    exact ⟨h1, ownsRow_keep h2 (fun k hv => hb0 k (own_lt h2 hv).1 (own_lt h2 hv).2), fun i hi => (h3 i hi).keep hb0, h4, h5⟩
  have hlt : ∀ i, i < n → ∀ k, (V.getD i (.slice none 0 0)).ownBlock = some k → B ≤ k ∧ k < w0.heap.size := by
    obtain ⟨e1, e2, e3, e4, e5⟩ := hV0
    have hl := OwnM.len ⟨V, e1, e2, e3, e4, e5⟩
    exact fun i hi k hk => own_lt (e3 i (by omega)) hk
  have HT := Lib.hid hlt
  have HL := Lib.hid (OwnM.len ⟨V, hV⟩)
  have hgg := own_form hV.2.1
  obtain ⟨a', c', hv, -, -, hg⟩ := hgg
  injection hv with e1 e2 e3
  subst e1 e3
  rw [← e2] at hg
  have HV := Lib.hid hV
  clear hV hlt hV0 e2 hb0
  go_enter Try.func37, Try.ntmps37
  go_wp2
  go_loopw [1, 5] (fun x i wr => ∃ (k : Nat) (y : Int), k ≤ n ∧ i = .int .i64 k ∧ x = .int .i64 y ∧ y = m + M.pre R k ∧ OwnV wr B (.slice a n cap) (M.marked m R k) V ∧ Chg (fun k => B ≤ k ∧ k < w0.heap.size) w wr) (fun _ i _ => n - (intOf i).toNat)
  case atStart => exact ⟨0, m, Nat.zero_le _, rfl, rfl, by rw [M.pre_zero]; omega, by rw [M.marked_zero]; exact HV.out, Chg.refl _ _⟩
  case round =>
    obtain ⟨k, y, hk, rfl, rfl, hy, hO, hb⟩ := hrel
    have HO := Lib.hid hO
    have HB := Lib.hid hb
    by_cases hlt : k < n
    · have hkR : k < R.length := by have := HL.out; omega
      have hps := M.pre_succ R k hkR
      have hpm := M.pre_mono R (show k + 1 ≤ R.length by omega)
      have hle := M.len_le_pre R k hkR
      obtain ⟨g, rfl, hBg, hgl⟩ := hg (by omega)
      have hrow := HO.out.2.2.1 k (by simpa using hkR)
      obtain ⟨ra, rc, hrv, hrc, hrm, hrg⟩ := own_form hrow
      have hcell : wr.cell? ⟨g, k, none⟩ = some (V.getD k (.slice none 0 0)) := by
        have e : n = (M.marked m R k).length := by have := HL.out; simpa using this
        have h2 := HO.out.2.1
        rw [← e] at h2
        rw [World.ownsRow.cellAt h2 k (by omega)]
        have := HO.out.1
        simp [show k < V.length by omega]
      rw [M.marked_rowlen m R k k hkR] at hrv hrc
      rw [hrv] at hcell hrow
      rw [M.marked_at m R k k hkR, if_neg (Nat.lt_irrefl _)] at hrow
      have y1 : 0 ≤ y := by omega
      have y2 : y ≤ 40000000 := by omega
      generalize hLn : (R.getD k []).length = L at *
      have hLs : L ≤ 1048576 := by omega
      have HY := Lib.hid hy
      have HP := Lib.hid hps
      have HRV := Lib.hid hrv
      have HRW := Lib.hid hrow
      have HLn := Lib.hid hLn
      have HTk := Lib.hid (HT.out k hlt)
      clear hO hb hg hps hpm hle hrow hrv hrg hrc hy hLn
      go_wp2_with fail
      refine (markInts _ _ _ B _ _ _ HRW.out hLs y1 y2).mono ?_
      rintro e w1 ⟨rfl, ho1, hc1⟩
      have hN : OwnV w1 B (.slice (some ⟨g, 0, none⟩) n cap) (M.marked m R (k + 1)) V := by
        have := HO.out.row k (by simpa using hkR) (l := M.iota y L) (by rw [HRV.out]; exact ho1) (by rw [HRV.out]; exact hc1)
        rw [HY.out, ← HLn.out, M.marked_set m R k hkR] at this
        exact this
      have HN := Lib.hid hN
      have HB1 := Lib.hid (HB.out.trans (hc1.mono (fun j hj => HTk.out j (by rw [HRV.out]; exact hj))))
      clear ho1 hc1 hN
      go_wp2
      go_roundw
      case rel => exact ⟨k + 1, y + L, by omega, by go_num, rfl, by rw [HY.out, HP.out]; omega, HN.out, HB1.out⟩
      case measure => simp [intOf]; omega
    · have hkn : k = n := by omega
      subst hkn
      have HY := Lib.hid hy
      clear hO hb hg hy
      go_wp2
      go_ret
      have e := HL.out
      refine ⟨by rw [HY.out, ← e]; rfl, ⟨V, ?_⟩, HB.out⟩
      unfold M.marks
      rw [← e]
      exact HO.out

set_option maxRecDepth 100000 in
set_option maxHeartbeats 400000 in
theorem heldIntss (a : Option Addr) (n cap : Nat) (R : List (List Int)) (m : Int) (w : World) (h : Mat w a n (M.marks m R)) (hp : M.pre R R.length ≤ 1048576) (h1 : 0 ≤ m) (h2 : m + M.pre R R.length ≤ 40000000) :
    Calls Try.prog 39 #[.slice a n cap, .int .i64 m] w fun e w' => e = .returned (.int .i64 (m + M.pre R R.length)) ∧ w = w' := by
  have HL : Hid (n = R.length) := by have := h.1; unfold M.marks at this; show _ = _; simpa using this.symm
  have hm := h.2.1
  have HI := Lib.hid h
  clear h
  unfold maxLen at hm
  go_enter Try.func39, Try.ntmps39
  go_wp2
  go_loop [1, 5] (fun x i => ∃ (k : Nat) (y : Int), k ≤ n ∧ i = .int .i64 k ∧ x = .int .i64 y ∧ y = m + M.pre R k) (fun _ i => n - (intOf i).toNat)
  case atStart => exact ⟨0, m, Nat.zero_le _, rfl, rfl, by rw [M.pre_zero]; omega⟩
  case round =>
    obtain ⟨k, y, hk, rfl, rfl, hy⟩ := hrel
    by_cases hlt : k < n
    · have hkR : k < R.length := by have := HL.out; omega
      have hps := M.pre_succ R k hkR
      have hpm := M.pre_mono R (show k + 1 ≤ R.length by omega)
      have hle := M.len_le_pre R k hkR
      obtain ⟨b, off, ra, rc, L, l, rfl, hbl, hll, hc, hI⟩ := HI.out.at k hlt
      unfold M.marks at hll
      rw [M.marked_at m R _ k hkR, if_pos hkR] at hll
      have hLe : L = (R.getD k []).length := by have := hI.1; rw [hll] at this; simpa using this.symm
      rw [← hLe] at hps hle hll
      rw [hll, ← hy] at hI
      have y1 : 0 ≤ y := by omega
      have y2 : y ≤ 40000000 := by omega
      have hLs : L ≤ 1048576 := by omega
      have HY := Lib.hid hy
      have HP := Lib.hid hps
      have HII := Lib.hid hI
      have hyL : 0 ≤ y + (L : Int) := by omega
      clear hI hll hps hpm hle hLe hy
      go_wp2_with fail
      refine (heldInts _ _ _ _ _ HII.out hLs y1 y2).mono ?_
      rintro e w' ⟨rfl, rfl⟩
      go_wp2
      go_round
      case rel => exact ⟨k + 1, y + L, by omega, by go_num, rfl, by rw [HY.out, HP.out]; omega⟩
      case measure => simp [intOf]; omega
    · have hkn : k = n := by omega
      subst hkn
      have HY := Lib.hid hy
      clear hy
      go_wp2
      go_ret
      have e := HL.out
      exact ⟨by rw [HY.out, ← e]; rfl, rfl⟩

/-- The same, said for the exact laws: the number is named, and what changed lies in the blocks of the marked slice. -/
theorem markM (a : Option Addr) (n cap B : Nat) (R : List (List Int)) (m : Int) (w0 w : World) (h0 : OwnM w0 B (.slice a n cap) R) (hb0 : Same B w0.heap.size w0 w) (hn : n ≤ 1048576) (hp : M.pre R R.length ≤ 1048576) (h1 : 0 ≤ m) (h2 : m + M.pre R R.length ≤ 40000000) :
    Calls Try.prog 37 #[.slice a n cap, .int .i64 m] w fun e w' => ∃ y : Int, e = .returned (.int .i64 y) ∧ 0 ≤ y ∧ Hid (y = m + M.pre R R.length) ∧ OwnM w' B (.slice a n cap) (M.marks m R) ∧ Chg (fun k => B ≤ k ∧ k < w0.heap.size) w w' := by
  refine (markIntss _ _ _ _ _ _ _ _ h0 hb0 hn hp h1 h2).mono ?_
  rintro e w' ⟨rfl, ho, hc⟩
  exact ⟨_, rfl, by omega, rfl, ho, hc⟩
theorem heldM (a : Option Addr) (n cap : Nat) (R : List (List Int)) (m y : Int) (w : World) (h : Mat w a n (M.marks m R)) (hp : M.pre R R.length ≤ 1048576) (h1 : 0 ≤ m) (h2 : m + M.pre R R.length ≤ 40000000) (hy : y = m + M.pre R R.length) :
    Calls Try.prog 39 #[.slice a n cap, .int .i64 m] w fun e w' => e = .returned (.int .i64 y) ∧ w = w' := by
  subst hy
  exact heldIntss _ _ _ _ _ _ h hp h1 h2
theorem markV (a : Option Addr) (n cap B : Nat) (l : List Int) (m : Int) (w0 w : World) (h0 : Own w0 B (.slice a n cap) l) (hb0 : Same B w0.heap.size w0 w) (hn : n ≤ 1048576) (h1 : 0 ≤ m) (h2 : m ≤ 40000000) :
    Calls Try.prog 38 #[.slice a n cap, .int .i64 m] w fun e w' => ∃ y : Int, e = .returned (.int .i64 y) ∧ 0 ≤ y ∧ Hid (y = m + n) ∧ Own w' B (.slice a n cap) (M.iota m n) ∧ Chg (fun k => B ≤ k ∧ k < w0.heap.size) w w' := by
  refine (markInts _ _ _ B l _ _ (h0.keep hb0) hn h1 h2).mono ?_
  rintro e w' ⟨rfl, ho, hc⟩
  exact ⟨_, rfl, by omega, rfl, ho, hc.mono (fun k hk => own_lt h0 hk)⟩
theorem heldV (a : Option Addr) (n cap : Nat) (m y : Int) (w : World) (h : Ints .i64 w a n (M.iota m n)) (hn : n ≤ 1048576) (h1 : 0 ≤ m) (h2 : m ≤ 40000000) (hy : y = m + n) :
    Calls Try.prog 49 #[.slice a n cap, .int .i64 m] w fun e w' => e = .returned (.int .i64 y) ∧ w = w' := by
  subst hy
  exact heldInts _ _ _ _ _ h hn h1 h2
end Go.Proofs.Ytcofjjipjcekjab.V

namespace Go.Proofs.Ytcofjjipjcekjab.V
open Go.RowKit

/-- The matrices P, n rows each, in a list of its own; each was made at a world of its own and has stayed since. -/
def Pws (w : World) (B : Nat) (v : Value) (m n : Nat) (P : Nat → List (List Int)) : Prop :=
  ∃ V : List Value, V.length = m ∧ w.ownsRow B 24 1 v m V ∧
    ∀ i, i < m → ∃ (wi : World) (lo : Nat) (b : Option Addr) (c : Nat), V.getD i (.slice none 0 0) = .slice b n c ∧ OwnM wi lo (.slice b n c) (P i) ∧ wi.heap.size ≤ w.heap.size ∧ Same lo wi.heap.size wi w ∧ ∀ k, v.ownBlock = some k → ¬(lo ≤ k ∧ k < wi.heap.size)

theorem OwnM.same {wi w : World} {lo : Nat} {v : Value} {R : List (List Int)} (h : OwnM wi lo v R) (hs : Same lo wi.heap.size wi w) : OwnM w lo v R :=
  h.keep hs
theorem Pws.below {w w' : World} {B : Nat} {v : Value} {m n : Nat} {P : Nat → List (List Int)} (h : Pws w B v m n P) (hb : Below w.heap.size w w') : Pws w' B v m n P := by
  obtain ⟨V, h1, h2, h3⟩ := h
  refine ⟨V, h1, ownsRow_keep h2 (fun k hv => hb.block k (own_lt h2 hv).2), fun i hi => ?_⟩
  obtain ⟨wi, lo, b, c, e, ho, hz, hs, hk⟩ := h3 i hi
  exact ⟨wi, lo, b, c, e, ho, Nat.le_trans hz hb.size, hs.below hb hz, hk⟩
/-- One of the matrices. -/
theorem Pws.at {w : World} {B : Nat} {a : Option Addr} {m n cap : Nat} {P : Nat → List (List Int)} (h : Pws w B (.slice a m cap) m n P) (i : Nat) (hi : i < m) :
    ∃ g b c, a = some ⟨g, 0, none⟩ ∧ w.cell? ⟨g, i, none⟩ = some (.slice b n c) ∧ Mat w b n (P i) := by
  obtain ⟨V, h1, h2, h3⟩ := h
  obtain ⟨a', c', hv, hc, hm, hg⟩ := own_form h2
  injection hv with e1 e2 e3
  subst e1 e3
  obtain ⟨g, rfl, hB, hlt⟩ := hg (by omega)
  obtain ⟨wi, lo, b, c, e, ho, hz, hs, hk⟩ := h3 i hi
  refine ⟨g, b, c, rfl, ?_, (ho.same hs).mat⟩
  rw [World.ownsRow.cellAt h2 i (by omega), ← e]
  simp [show i < V.length by omega]
theorem Pws.caps {w : World} {B : Nat} {a : Option Addr} {m n cap : Nat} {P : Nat → List (List Int)} (h : Pws w B (.slice a m cap) m n P) : m ≤ cap ∧ cap ≤ maxLen := by
  obtain ⟨V, h1, h2, _⟩ := h
  obtain ⟨a', c', hv, k1, k2, _⟩ := own_form h2
  injection hv with e1 e2 e3
  subst e3
  exact ⟨k1, k2⟩
theorem pws_lit1 (w : World) (B n : Nat) (hB : B ≤ w.heap.size) {b : Option Addr} {c : Nat} {M : List (List Int)} (ho : OwnM w B (.slice b n c) M) (P : Nat → List (List Int)) (hP : P 0 = M) :
    Pws (w.alloc (.cells #[.slice b n c] 24)) B (.slice (some ⟨w.heap.size, 0, none⟩) 1 1) 1 n P := by
  refine ⟨[.slice b n c], rfl, World.ownsRow_lit w #[.slice b n c] 1 hB (by decide) rfl, fun i hi => ?_⟩
  obtain rfl : i = 0 := by omega
  refine ⟨w, B, b, c, rfl, by rw [hP]; exact ho, (b_alloc w _).size, (Same.refl B w.heap.size w).below (b_alloc w _) (Nat.le_refl _), fun k hk => ?_⟩
  simp only [Value.ownBlock, Option.some.injEq] at hk
  omega
theorem infoM64 : (Try.prog.info? 24).map (fun i => (i.zero, i.size, i.bytes)) = some (some (.slice none 0 0), 1, 24) := by kernel_rfl

set_option maxRecDepth 100000 in
set_option maxHeartbeats 400000 in
theorem sNode (a : Option Addr) (n cap : Nat) (x : Int) (w : World) (hn : n ≤ 1000) : Calls Try.prog 86 #[.slice a n cap, .int .i64 x] w fun e w' => e = .returned (.bool (M.inN n x)) ∧ w = w' := by
  go_enter Try.func86, Try.ntmps86
  go_wp2_with fail
  refine (sIn _ _ _ _).mono ?_
  rintro e w' ⟨rfl, rfl⟩
  go_wp2
  go_ret
  exact ⟨retB (by unfold M.inN; rw [Bool.eq_iff_iff]; simp; omega), rfl⟩
theorem sNode_b (a : Option Addr) (n cap : Nat) (x : Int) (w : World) (b : Bool) (hb : M.inN n x = b) (hn : n ≤ 1000) : Calls Try.prog 86 #[.slice a n cap, .int .i64 x] w fun e w' => e = .returned (.bool b) ∧ w = w' := by
  subst hb; exact sNode a n cap x w hn
end Go.Proofs.Ytcofjjipjcekjab.V

namespace Go.Proofs.Ytcofjjipjcekjab.V
open Go.RowKit

end Go.Proofs.Ytcofjjipjcekjab.V

namespace Go.Proofs.Ytcofjjipjcekjab.V
set_option maxRecDepth 100000
open Go.RowKit
def NPost (r : Int × Int) (w : World) (e : Ending) (w' : World) : Prop :=
  e = .returned (.tuple #[.int .i64 r.1, .int .i64 r.2]) ∧ Below w.heap.size w w'
theorem rect_flat {X : List (List Int)} {n L i j : Nat} (h : Rect X n L) (hi : i < n) (hj : j < L) : X.flatten.getD (i * L + j) 0 = M.ent X i j :=
  M.flat_at X i j (fun k hk => h.2 k (by have := h.1; omega)) (by have := h.1; omega) hj
theorem wid_small {x : Int} (h1 : -200000000000 ≤ x) (h2 : x ≤ 200000000000) : Wid x := ⟨by omega, by omega⟩
set_option maxRecDepth 100000 in
set_option maxHeartbeats 4000000 in
theorem sPowerEntry (a : Option Addr) (n cap : Nat) (R : List (List Int)) (N i j : Int) (w : World) (h : Mat w a n R) : Calls Try.prog 30 #[.slice a n cap, .int .i64 N, .int .i64 i, .int .i64 j] w (NPost (M.peRes R N i j) w) := by
  have HA := Lib.hid h
  obtain ⟨b1, hb1⟩ : ∃ b, b = (decide ((0 : Int) ≤ N) && decide (N ≤ 100000)) := ⟨_, rfl⟩
  obtain ⟨b2, hb2⟩ : ∃ b, b = M.inN n i := ⟨_, rfl⟩
  obtain ⟨b3, hb3⟩ : ∃ b, b = M.inN n j := ⟨_, rfl⟩
  by_cases hs : M.sqB R = true
  · have HS := Lib.hid hs
    have hRn : R.length = n := h.1
    obtain ⟨-, n1, n2, -⟩ := sq_parts7 h hs
    have HC1 : Hid (∀ w, Calls Try.prog 60 #[.int .i64 N, .int .i64 0, .int .i64 100000] w fun e w' => e = .returned (.bool b1) ∧ w = w') := fun w => by rw [hb1]; exact sIn N 0 100000 w
    have HC2 : Hid (∀ w, Calls Try.prog 86 #[.slice a n cap, .int .i64 i] w fun e w' => e = .returned (.bool b2) ∧ w = w') := fun w => by rw [hb2]; exact sNode a n cap i w (by omega)
    have HC3 : Hid (∀ w, Calls Try.prog 86 #[.slice a n cap, .int .i64 j] w fun e w' => e = .returned (.bool b3) ∧ w = w') := fun w => by rw [hb3]; exact sNode a n cap j w (by omega)
    have hnod : M.nodesB R.length [i, j] = (b2 && b3) := by rw [hb2, hb3, hRn]; simp [M.nodesB]
    have hrg : (0 ≤ N ∧ N ≤ 100000) ↔ b1 = true := by rw [hb1]; simp
    by_cases hc : b1 = true ∧ b2 = true ∧ b3 = true
    · obtain ⟨e1, e2, e3⟩ := hc
      subst e1 e2 e3
      obtain ⟨N1, N2⟩ := hrg.2 rfl
      have hi := hb2.symm
      have hj := hb3.symm
      unfold M.inN at hi hj
      rw [Bool.and_eq_true, decide_eq_true_eq, decide_eq_true_eq] at hi hj
      obtain ⟨Nn, rfl⟩ := Int.eq_ofNat_of_zero_le N1
      obtain ⟨i, rfl⟩ := Int.eq_ofNat_of_zero_le hi.1
      obtain ⟨j, rfl⟩ := Int.eq_ofNat_of_zero_le hj.1
      have i2 : i < n := by omega
      have j2 : j < n := by omega
      have hNn : Nn ≤ 100000 := by omega
      have HE : Hid (M.peRes R Nn i j = if (M.fnd R (M.unitM n)).2.2.2 = 0 then M.chk (M.peVal R Nn i j (M.fnd R (M.unitM n)).1 (M.fnd R (M.unitM n)).2.1 (M.fnd R (M.unitM n)).2.2.1) else (0, (M.fnd R (M.unitM n)).2.2.2)) := by
        show _ = _
        unfold M.peRes
        rw [if_pos hs, if_pos ⟨N1, N2, by rw [hnod]; rfl⟩, hRn]
      clear h hs hb1 hb2 hb3 hnod hrg hi hj N1 N2
      go_enter Try.func30, Try.ntmps30
      go_wp2_with fail
      refine (sSquare_b _ _ _ R _ true HS.out HA.out).mono ?_
      rintro e w' ⟨rfl, qd, rfl⟩
      go_wp2_with fail
      refine (HC1.out _).mono ?_
      rintro e w' ⟨rfl, rfl⟩
      go_wp2_with fail
      refine (HC2.out _).mono ?_
      rintro e w' ⟨rfl, rfl⟩
      go_wp2_with fail
      refine (HC3.out _).mono ?_
      rintro e w' ⟨rfl, rfl⟩
      go_wp2_with fail
      refine (sUnit n _ (by omega)).mono ?_
      rintro e w2 ⟨bu, cu, rfl, ho, hb⟩
      have HO2 := Lib.hid ho
      have HB2 := Lib.hid ((below_drewN (Below.refl w.heap.size w) qd).trans hb)
      clear ho hb
      go_wp2_with fail
      refine (sStart7 w a n cap n R (M.unitM n) bu cu _ HB2.out HO2.out unit_rect n2 n1 n2).mono ?_
      rintro e w3 ⟨p, rfl, hs⟩
      have HS3 := Lib.hid hs
      clear hs
      go_wp2_with fail
      refine (sFind w a n cap n R (M.unitM n) p _ (serB_unit HA.out HS.out) HS3.out (okTo_unit n1 n2)).mono ?_
      rintro e w4 ⟨s, c, g, d, hf, rfl, hb, hser⟩
      have HB4 := Lib.hid hb
      have HE4 : Hid (M.peRes R Nn i j = if d = 0 then M.chk (M.peVal R Nn i j s c g) else (0, d)) := by
        show _ = _
        rw [HE.out, hf]
      by_cases hd : d = 0
      · subst hd
        obtain ⟨sn, cn, k, rfl, rfl, c1, hk, hk2, hok, hsr⟩ := hser rfl
        obtain ⟨g1, g2⟩ : -2000000 ≤ g ∧ g ≤ 2000000 := (M.fnd_bd (by omega) (by unfold M.unitM; simp; omega) (okTo_unit n1 n2 0 (Nat.le_refl _)) hf).2.2
        have hat := M.pe_bd (n := Nn) (s := sn) (c := cn) (k := k) c1 hk
        have hro := M.pe_ro (n := Nn) (s := sn) (c := cn) hNn
        have hmu := M.pe_mul hro.1 hro.2 g1 g2
        have hSB := serB_unit HA.out HS.out
        obtain ⟨q, hq⟩ : ∃ q, q = M.peAt Nn sn cn := ⟨_, rfl⟩
        obtain ⟨r, hr⟩ : ∃ r, r = M.peRo Nn sn cn := ⟨_, rfl⟩
        rw [← hq] at hat
        rw [← hr] at hro hmu
        obtain ⟨hrc, hvl⟩ := hSB.sq (hok q hat)
        have hln : (M.sq7 R (M.unitM n) q).flatten.length = n * n := flat_rect hrc
        obtain ⟨hb0, hp, b5, c5, b6, c6, hrow, -, ho2⟩ := id hsr
        obtain ⟨g6, q6, rc6, rfl, hcr, hro6, -, -⟩ := ho2.rowg q (by omega) (by rw [M.sqL_get (show q < k + 1 by omega), hln]; exact Nat.mul_pos n1 n1)
        rw [M.sqL_get (show q < k + 1 by omega), hln] at hcr hro6
        have s2 : w4.cell? ⟨p, 2, none⟩ = some (.slice (some ⟨g6, 0, none⟩) (k + 1) c6) := World.rowIs.cell hrow (i := 2) (by omega)
        have hij : i * n + j < n * n := by
          have : i * n + n ≤ n * n := by rw [← Nat.succ_mul]; exact Nat.mul_le_mul_right n i2
          omega
        have hx := hro6.cellAt (i * n + j) hij
        rw [rect_flat hrc i2 j2] at hx
        have hv := wid_val (hvl i j i2 j2)
        have HX : Hid (M.peRes R Nn i j = M.chk (M.times (M.ent (M.sq7 R (M.unitM n) q) i j) (r * g))) := by
          show _ = _
          rw [HE4.out, if_pos rfl]
          unfold M.peVal
          rw [HA.out.1, Int.toNat_natCast, Int.toNat_natCast, ← hq, ← hr]
        have HB5 := Lib.hid hb
        have hqk : (q : Int) < (k : Int) + 1 := by omega
        have hij2 : (i : Int) * (n : Int) + (j : Int) < ((n * n : Nat) : Int) := by
          have : (((i * n + j : Nat)) : Int) < ((n * n : Nat) : Int) := by omega
          simpa using this
        have hnn : n * n ≤ 100 := Nat.mul_le_mul n2 n2
        clear hser hf hb hok hsr hSB hrc hvl hln hb0 hrow ho2 hro6
        obtain ⟨m, hm⟩ : ∃ m, m = n * n := ⟨_, rfl⟩
        rw [← hm] at hcr hij hij2 hnn
        generalize M.ent (M.sq7 R (M.unitM n) q) i j = x at *
        have hwd : Wid (r * g) := wid_small hmu.1 hmu.2
        have hsn : sn ≤ 100 := by omega
        have hcn : cn ≤ 100 := by omega
        by_cases hlt : sn < Nn
        · obtain ⟨p1, p2⟩ := M.pe_great (c := cn) hlt
          rw [p1] at hr
          rw [p2] at hq
          have hlt' : (sn : Int) < (Nn : Int) := by omega
          obtain ⟨D, hD⟩ : ∃ D, D = Nn - sn := ⟨_, rfl⟩
          rw [← hD] at hr hq
          have hD1 : (Nn : Int) - (sn : Int) = (D : Int) := by omega
          obtain ⟨mm, hmm⟩ : ∃ mm, mm = D % cn := ⟨_, rfl⟩
          have hD2 : (D : Int) % (cn : Int) = (mm : Int) := by rw [hmm]; exact (Int.natCast_emod D cn).symm
          have hmb : mm < cn := by rw [hmm]; exact Nat.mod_lt _ (by omega)
          rw [← hmm] at hq
          have hD3 : (sn : Int) + (mm : Int) = (q : Int) := by omega
          have hDb : D ≤ 100000 := by omega
          clear hmm
          have hD4 : Int.tdiv (D : Int) (cn : Int) = r := by rw [hr]; rfl
          have hcz : ¬ (cn : Int) = 0 := by omega
          have hro1 := hro.1
          have hro2 := hro.2
          have hrg : g * r = r * g := Int.mul_comm _ _
          obtain ⟨z, hz⟩ : ∃ z, z = r * g := ⟨_, rfl⟩
          rw [← hz] at hwd hmu hrg HX
          have hmu1 := hmu.1
          have hmu2 := hmu.2
          clear p1 p2 hlt hm hr hq hD hro hmu hz
          go_wp2_with (go_at_call 89; refine (sTimesW _ _ _ hv hwd).mono ?_; rintro e w' ⟨rfl, rfl⟩)
          refine (sValue _ _).mono ?_
          rintro e w' ⟨rfl, rfl⟩
          go_wp2
          go_ret2
          exact ⟨by rw [HX.out]; rfl, HB5.out⟩
        · obtain ⟨p1, p2⟩ := M.pe_small (c := cn) (show Nn ≤ sn by omega)
          rw [p1] at hr
          rw [p2] at hq
          have hlt' : ¬ ((sn : Int) < (Nn : Int)) := by omega
          subst hr
          subst hq
          rw [Int.zero_mul] at HX hwd
          clear p1 p2 hlt hmu hm
          go_wp2_with (go_at_call 89; refine (sTimesW _ _ _ hv hwd).mono ?_; rintro e w' ⟨rfl, rfl⟩)
          refine (sValue _ _).mono ?_
          rintro e w' ⟨rfl, rfl⟩
          go_wp2
          go_ret2
          exact ⟨by rw [HX.out]; rfl, HB5.out⟩
      · have HE5 : Hid (M.peRes R Nn i j = (0, d)) := Lib.hid (HE4.out.trans (if_neg hd))
        clear hser hf hb
        go_wp2
        go_ret2
        exact ⟨by rw [HE5.out]; rfl, HB4.out⟩
    · have HE : Hid (M.peRes R N i j = (0, 2)) := by
        show _ = _
        unfold M.peRes
        rw [if_pos hs, if_neg (by rw [hnod, Bool.and_eq_true]; rintro ⟨z1, z2, z3, z4⟩; exact hc ⟨hrg.1 ⟨z1, z2⟩, z3, z4⟩)]
      clear h hs hb1 hb2 hb3 hnod hrg hRn
      cases b1 with
      | false =>
        clear hc
        go_enter Try.func30, Try.ntmps30
        go_wp2_with fail
        refine (sSquare_b _ _ _ R _ true HS.out HA.out).mono ?_
        rintro e w' ⟨rfl, qd, rfl⟩
        go_wp2_with fail
        refine (HC1.out _).mono ?_
        rintro e w' ⟨rfl, rfl⟩
        go_wp2
        go_ret2
        exact ⟨by rw [HE.out]; rfl, below_drewN (Below.refl _ _) qd⟩
      | true =>
        cases b2 with
        | false =>
          clear hc
          go_enter Try.func30, Try.ntmps30
          go_wp2_with fail
          refine (sSquare_b _ _ _ R _ true HS.out HA.out).mono ?_
          rintro e w' ⟨rfl, qd, rfl⟩
          go_wp2_with fail
          refine (HC1.out _).mono ?_
          rintro e w' ⟨rfl, rfl⟩
          go_wp2_with fail
          refine (HC2.out _).mono ?_
          rintro e w' ⟨rfl, rfl⟩
          go_wp2
          go_ret2
          exact ⟨by rw [HE.out]; rfl, below_drewN (Below.refl _ _) qd⟩
        | true =>
          obtain rfl : b3 = false := by cases b3 with
            | true => exact absurd ⟨rfl, rfl, rfl⟩ hc
            | false => rfl
          clear hc
          go_enter Try.func30, Try.ntmps30
          go_wp2_with fail
          refine (sSquare_b _ _ _ R _ true HS.out HA.out).mono ?_
          rintro e w' ⟨rfl, qd, rfl⟩
          go_wp2_with fail
          refine (HC1.out _).mono ?_
          rintro e w' ⟨rfl, rfl⟩
          go_wp2_with fail
          refine (HC2.out _).mono ?_
          rintro e w' ⟨rfl, rfl⟩
          go_wp2_with fail
          refine (HC3.out _).mono ?_
          rintro e w' ⟨rfl, rfl⟩
          go_wp2
          go_ret2
          exact ⟨by rw [HE.out]; rfl, below_drewN (Below.refl _ _) qd⟩
  · have hs' : M.sqB R = false := by simpa using hs
    have HS := Lib.hid hs'
    have HE : Hid (M.peRes R N i j = (0, 1)) := by show _ = _; unfold M.peRes; rw [if_neg hs]
    clear h hs hs' hb1 hb2 hb3
    go_enter Try.func30, Try.ntmps30
    go_wp2_with fail
    refine (sSquare_b _ _ _ R _ false HS.out HA.out).mono ?_
    rintro e w' ⟨rfl, qd, rfl⟩
    go_wp2
    go_ret2
    exact ⟨by rw [HE.out]; rfl, below_drewN (Below.refl _ _) qd⟩
end Go.Proofs.Ytcofjjipjcekjab.V

namespace Go.Proofs.Ytcofjjipjcekjab.V
set_option maxRecDepth 100000
open Go.RowKit
theorem elV_ent {X : List (List Int)} {i j : Nat} (hi : i < X.length) (hj : j < M.wid X) (h1 : i < 10) (h2 : j < 10) : (elV X)[i * 10 + j]? = some (.int .i64 (M.times (M.ent X i j) (-(M.maxL X.flatten)))) := by
  rw [elV_pat (by omega), List.getElem?_map]
  have := M.patC_get (X := X) (h := M.maxL X.flatten) hi hj h1 h2
  rw [List.getD_eq_getElem?_getD] at this
  have hl : i * 10 + j < (M.patC X (M.maxL X.flatten)).length := by rw [M.patC_len]; omega
  rw [List.getElem?_eq_getElem hl] at this ⊢
  rw [Option.getD_some] at this
  rw [this]; rfl
set_option maxRecDepth 100000 in
set_option maxHeartbeats 1000000 in
theorem elEntry (X : List (List Int)) (i j : Nat) (w : World) (hm : M.isMat X = true) (hi : i < X.length) (hj : j < M.wid X) :
    Calls Try.prog 82 #[.agg (elV X).toArray, .int .i64 i, .int .i64 j] w fun e w' => e = .returned (.int .i64 (M.times (M.times (M.ent X i j) (-(M.maxL X.flatten))) (M.maxL X.flatten))) ∧ Below w.heap.size w w' := by
  obtain ⟨m1, m2, m3, m4, -⟩ := M.isMat_t hm
  have i10 : i < 10 := by omega
  have j10 : j < 10 := by omega
  obtain ⟨wa, hwa⟩ : ∃ x, x = w.alloc (.cells (elV X).toArray 90) := ⟨_, rfl⟩
  have HWA := Lib.hid hwa
  have hb : Below w.heap.size w wa := by rw [hwa]; exact b_alloc _ _
  have hg : wa.heap[w.heap.size]? = some (.cells (elV X).toArray 90 (0, 0)) := by rw [hwa]; exact heap_alloc_last _ _
  have s1 : wa.cell? ⟨w.heap.size, i * 10 + j, none⟩ = some (.int .i64 (M.times (M.ent X i j) (-(M.maxL X.flatten)))) := by
    rw [cell_of_row _ _ _ _ _ _ hg]
    simpa using elV_ent hi hj i10 j10
  have s2 : wa.cell? ⟨w.heap.size, 100, none⟩ = some (.int .i64 (M.maxL X.flatten)) := by
    rw [cell_of_row _ _ _ _ _ _ hg]
    simpa using elV_top (X := X)
  have hx := M.isVal_t (M.maxL_vals (M.flat_vals hm))
  have he := M.isVal_t ((M.isMat_t hm).2.2.2.2.2 i hi j hj)
  have ht : Wid (M.times (M.ent X i j) (-(M.maxL X.flatten))) := by
    unfold M.times
    split
    · exact ⟨by omega, by omega⟩
    · unfold Wid; omega
  have hx' : Wid (M.maxL X.flatten) := ⟨by omega, by omega⟩
  have HB := Lib.hid hb
  have HTm : Hid (∀ w : World, Calls Try.prog 83 #[.int .i64 (M.times (M.ent X i j) (-(M.maxL X.flatten))), .int .i64 (M.maxL X.flatten)] w fun e w' => e = .returned (.int .i64 (M.times (M.times (M.ent X i j) (-(M.maxL X.flatten))) (M.maxL X.flatten))) ∧ w = w') := Lib.hid (fun w => timesW _ _ w ht hx')
  generalize M.times (M.times (M.ent X i j) (-(M.maxL X.flatten))) (M.maxL X.flatten) = z at *
  generalize M.times (M.ent X i j) (-(M.maxL X.flatten)) = x at *
  generalize M.maxL X.flatten = y at *
  have hel : (elV X).length = 101 := elV_len X
  clear hwa hb hg hx he ht hx' hm m1 m2 m3 m4 hi hj
  go_enter Try.func82, Try.ntmps82
  go_wp2
  rw [← HWA.out]
  have hi' : (i : Int) < 10 := by omega
  have hj' : (j : Int) < 10 := by omega
  go_quiet (exact Calls.quiet_of_same ((HTm.out _).mono fun e w' h => ⟨h.1, h.2.symm⟩))
  go_wp2
  go_ret
  exact ⟨rfl, below_drewN HB.out _⟩
end Go.Proofs.Ytcofjjipjcekjab.V

namespace Go.Proofs.Ytcofjjipjcekjab.V
set_option maxRecDepth 100000
open Go.RowKit
theorem wpStill_want {P : Program} {ops : Array Oper} {w : World} {Q : Act → Prop} {a : Act} {o : Oper} {rest : List Oper} (hg : o.guard = none) (h : ∀ K : Act → Prop, (∀ a, wpStill P ops w Q rest a → K a) → o.still P a w K) : wpStill P ops w Q (o :: rest) a :=
  wpStill_step fun K hK => by
    rw [if_pos (by simp [Region.wanted, hg])]
    exact h K hK
theorem still_loadV {P : Program} {K : Act → Prop} {o : Oper} {a : Act} {w : World} (ty : TypeId) (x : Operand) (b off : Nat) (v : Value) (ho : o.op = .load ty x) (hx : a.eval x = .pointer (some ⟨b, off, none⟩))
    (hr : (loadVar ty ⟨b, off, none⟩).run P w = .ok v w) (hk : K (a.put o.dst v)) : o.still P a w K := by
  unfold Oper.still execOp
  simp only [ho, hx, Instr.loadAt, Instr.sureAddr, Sem.run_bind, Sem.run_pure, Result.andThen_ok, hr]
  exact ⟨rfl, hk⟩
theorem agg_el (w : World) : (isAgg 90).run Try.prog w = .ok true w := by
  unfold isAgg
  rw [Sem.run_bind, run_underlying Try.underlying90 w]
  rfl
theorem size_el (w : World) : (sizeOf 90).run Try.prog w = .ok 101 w := by
  have : (Try.prog.info? 90).map (·.size) = some 101 := by kernel_rfl
  cases hq : Try.prog.info? 90 with
  | none => rw [hq] at this; cases this
  | some i => rw [hq] at this; simp at this; simp [sizeOf, typeInfo, hq, this]
theorem els_loadE {w : World} {B k i g c : Nat} {R F : List (List Int)} (h : w.ownsRow B 90 101 (.slice (some ⟨g, 0, none⟩) k c) k (elvs R F k)) (hi : i < k) :
    (loadVar 90 ⟨g, i * 101, none⟩).run Try.prog w = .ok (.agg (elV (M.sq7 R F i)).toArray) w := by
  have hl := elV_len (M.sq7 R F i)
  have h1 : (loadCellsFrom ⟨g, i * 101, none⟩ 0 101 #[]).run Try.prog w = .ok (elV (M.sq7 R F i)).toArray w := by
    have := run_loadCells_list (P := Try.prog) (w := w) ⟨g, i * 101, none⟩ (elV (M.sq7 R F i)) (fun t v hv => by
      have hadd : (⟨g, i * 101, none⟩ : Addr).add t = ⟨g, i * 101 + t, none⟩ := by unfold Addr.add; split <;> simp_all
      have ht : t < 101 := by
        have := (List.getElem?_eq_some_iff.1 hv).1
        omega
      rw [hadd, World.ownsRow.cellAt h _ (by omega), elvs_at R F i t (by omega) k hi]
      exact hv)
    rw [hl] at this
    simpa [loadCells] using this
  simp [loadVar, agg_el, size_el, loadCells, h1, Sem.run_bind, Result.andThen]
theorem ints_pair (w : World) (x y : Int) : Ints .i64 (w.alloc (.cells #[.int .i64 x, .int .i64 y] 2)) (some ⟨w.heap.size, 0, none⟩) 2 [x, y] := by
  refine ⟨rfl, by decide, .inr ⟨_, _, rfl, by simp, fun i hi => ?_⟩⟩
  rcases (show i = 0 ∨ i = 1 by omega) with rfl | rfl <;> simp
set_option maxRecDepth 100000 in
set_option maxHeartbeats 4000000 in
theorem powerEntry (a : Option Addr) (n cap : Nat) (R : List (List Int)) (N i j : Int) (w : World) (h : Mat w a n R) : Calls Try.prog 29 #[.slice a n cap, .int .i64 N, .int .i64 i, .int .i64 j] w (NPost (M.peRes R N i j) w) := by
  have HA := Lib.hid h
  by_cases hs : M.sqB R = true
  · have HS := Lib.hid hs
    have hRn : R.length = n := h.1
    obtain ⟨-, n1, n2, -⟩ := sq_parts7 h hs
    by_cases hN : 0 ≤ N ∧ N ≤ 100000
    · obtain ⟨N1, N2⟩ := hN
      obtain ⟨b2, hb2⟩ : ∃ b, b = M.nodesB n [i, j] := ⟨_, rfl⟩
      have HN := Lib.hid hb2.symm
      obtain ⟨Nn, rfl⟩ := Int.eq_ofNat_of_zero_le N1
      have k1 : ¬ ((Nn : Int) < 0) := by omega
      have k2 : ¬ (100000 < (Nn : Int)) := by omega
      cases b2 with
      | true =>
        have hno := hb2.symm
        simp only [M.nodesB, M.inN, List.all_cons, List.all_nil, Bool.and_true, Bool.and_eq_true, decide_eq_true_eq] at hno
        obtain ⟨⟨i1, i2⟩, j1, j2⟩ := hno
        obtain ⟨i, rfl⟩ := Int.eq_ofNat_of_zero_le i1
        obtain ⟨j, rfl⟩ := Int.eq_ofNat_of_zero_le j1
        have i2 : i < n := by omega
        have j2 : j < n := by omega
        have hNn : Nn ≤ 100000 := by omega
        have HE : Hid (M.peRes R Nn i j = if (M.fnd R (M.unitM n)).2.2.2 = 0 then M.chk (M.peVal R Nn i j (M.fnd R (M.unitM n)).1 (M.fnd R (M.unitM n)).2.1 (M.fnd R (M.unitM n)).2.2.1) else (0, (M.fnd R (M.unitM n)).2.2.2)) := by
          show _ = _
          unfold M.peRes
          rw [if_pos hs, if_pos ⟨N1, N2, by rw [hRn]; exact hb2.symm⟩, hRn]
        clear h hs hb2 i1 j1 N1 N2
        go_enter Try.func29, Try.ntmps29
        go_wp2_with (go_at_call 78; refine (isSquare_b _ _ _ R _ true HS.out HA.out).mono ?_; rintro e w' ⟨rfl, rfl⟩)
        go_wp2_with fail
        refine (areNodes_b _ n _ _ _ _ _ _ true HN.out (by omega) (ints_pair _ _ _)).mono ?_
        rintro e w' ⟨rfl, rfl⟩
        go_wp2_with fail
        refine (powersOf _ _ _ R _ (HA.out.below (b_alloc _ _)) n1 n2).mono ?_
        rintro e w2 ⟨p, rfl, hs⟩
        have HS3 := Lib.hid hs
        clear hs
        go_wp2_with fail
        refine (firstRepeat _ a n cap n R (M.unitM n) p _ (serB_unit (HA.out.below (b_alloc _ _)) HS.out) HS3.out (okTo_unit n1 n2)).mono ?_
        rintro e w4 ⟨s, c, g, d, hf, rfl, hb, hels⟩
        have HB4 := Lib.hid ((b_alloc w _).trans (hb.mono (b_alloc w _).size))
        have HE4 : Hid (M.peRes R Nn i j = if d = 0 then M.chk (M.peVal R Nn i j s c g) else (0, d)) := by
          show _ = _
          rw [HE.out, hf]
        by_cases hd : d = 0
        · subst hd
          obtain ⟨sn, cn, k, rfl, rfl, c1, hk, hk2, hok, hels2⟩ := hels rfl
          obtain ⟨g1, g2⟩ : -2000000 ≤ g ∧ g ≤ 2000000 := (M.fnd_bd (by omega) (by unfold M.unitM; simp; omega) (okTo_unit n1 n2 0 (Nat.le_refl _)) hf).2.2
          have hat := M.pe_bd (n := Nn) (s := sn) (c := cn) (k := k) c1 hk
          have hro := M.pe_ro (n := Nn) (s := sn) (c := cn) hNn
          have hmu := M.pe_mul hro.1 hro.2 g1 g2
          have hSB := serB_unit HA.out HS.out
          obtain ⟨q, hq⟩ : ∃ q, q = M.peAt Nn sn cn := ⟨_, rfl⟩
          obtain ⟨r, hr⟩ : ∃ r, r = M.peRo Nn sn cn := ⟨_, rfl⟩
          rw [← hq] at hat
          rw [← hr] at hro hmu
          obtain ⟨hrc, hvl⟩ := hSB.sq (hok q hat)
          obtain ⟨hb0, v0, v1, g3, c3, hrow, hown⟩ := hels2
          have hv := wid_val (hvl i j i2 j2)
          have hX : M.isMat (M.sq7 R (M.unitM n) q) = true := hok q hat
          have hil : i < (M.sq7 R (M.unitM n) q).length := by rw [hrc.1]; exact i2
          have hjw : j < M.wid (M.sq7 R (M.unitM n) q) := by rw [M.sq7_wid (by omega), M.wid_unit n1]; exact j2
          have hback := M.pat_back hX hil hjw
          have HEn := Lib.hid (fun w => elEntry (M.sq7 R (M.unitM n) q) i j w hX hil hjw)
          rw [hback] at HEn
          have HX : Hid (M.peRes R Nn i j = M.chk (M.times (M.ent (M.sq7 R (M.unitM n) q) i j) (r * g))) := by
            show _ = _
            rw [HE4.out, if_pos rfl]
            unfold M.peVal
            rw [HA.out.1, Int.toNat_natCast, Int.toNat_natCast, ← hq, ← hr]
          have HOw := Lib.hid hown
          have HRow := Lib.hid hrow
          have hqk : (q : Int) < (k : Int) + 1 := by omega
          have hcz : ¬ (cn : Int) = 0 := by omega
          have hsn : sn ≤ 100 := by omega
          have hcn : cn ≤ 100 := by omega
          have hwd : Wid (r * g) := wid_small hmu.1 hmu.2
          generalize M.ent (M.sq7 R (M.unitM n) q) i j = x at *
          clear hels hf hb hok hSB hrc hvl hb0 hrow hown hX hil hjw hback
          by_cases hlt : sn < Nn
          · obtain ⟨p1, p2⟩ := M.pe_great (c := cn) hlt
            rw [p1] at hr
            rw [p2] at hq
            obtain ⟨D, hD⟩ : ∃ D, D = Nn - sn := ⟨_, rfl⟩
            rw [← hD] at hr hq
            have hD1 : (Nn : Int) - (sn : Int) = (D : Int) := by omega
            have hD0 : (0 : Int) < (D : Int) := by omega
            have hDb : D ≤ 100000 := by omega
            have hD4 : Int.tdiv (D : Int) (cn : Int) = r := by rw [hr]; rfl
            obtain ⟨z, hz⟩ : ∃ z : Nat, z = D / cn * cn := ⟨_, rfl⟩
            have hzr : r * (cn : Int) = (z : Int) := by rw [hr, hz]; simp
            have hdm := Nat.div_add_mod D cn
            have hzq : (Nn : Int) - (z : Int) = (q : Int) := by
              have : cn * (D / cn) = D / cn * cn := Nat.mul_comm _ _
              omega
            have hzb : z ≤ 100000 := by omega
            have hw1 : IntKind.i64.wrap (z : Int) = (z : Int) := IntWalk.i64_in _ (by omega)
            have hwq : IntKind.i64.wrap (q : Int) = (q : Int) := IntWalk.i64_in _ (by omega)
            have hw2 : IntKind.i64.wrap ((Nn : Int) - (z : Int)) = (q : Int) := by rw [hzq]; exact IntWalk.i64_in _ (by omega)
            obtain ⟨y, hy⟩ : ∃ y, y = r * g := ⟨_, rfl⟩
            have hrg : r * g = y := hy.symm
            rw [← hy] at hwd hmu HX
            have hmu1 := hmu.1
            have hmu2 := hmu.2
            have hro1 := hro.1
            have hro2 := hro.2
            clear p1 p2 hlt hr hq hD hro hmu hz hdm hy
            go_wp2
            obtain ⟨w5, hw5⟩ : ∃ x, x = w4.alloc (.cells #[.int .i64 sn, .int .i64 cn, .int .i64 g] 81) := ⟨_, rfl⟩
            obtain ⟨qb, hqb⟩ : ∃ x, x = w4.heap.size := ⟨_, rfl⟩
            have hb5 : Below w4.heap.size w4 w5 := by rw [hw5]; exact b_alloc _ _
            have hg5 : w5.heap[qb]? = some (.cells #[.int .i64 sn, .int .i64 cn, .int .i64 g] 81 (0, 0)) := by rw [hw5, hqb]; exact heap_alloc_last _ _
            have l1 : w5.cell? ⟨qb, 1, none⟩ = some (.int .i64 cn) := by rw [cell_of_row _ _ _ _ _ _ hg5]; rfl
            have l2 : w5.cell? ⟨qb, 2, none⟩ = some (.int .i64 g) := by rw [cell_of_row _ _ _ _ _ _ hg5]; rfl
            have HOw5 := Lib.hid (ownE_keep (w' := w5) HOw.out fun j hj => hb5.block j (World.ownsRow.lt HOw.out j hj).2)
            have hr5 := World.rowIs.of_block (w' := w5) HRow.out (hb5.block p (World.rowIs.lt HRow.out))
            have s2 : w5.cell? ⟨p, 2, none⟩ = some (.slice (some ⟨g3, 0, none⟩) (k + 1) c3) := World.rowIs.cell hr5 (i := 2) (by omega)
            have HB5 := Lib.hid (HB4.out.trans (hb5.mono HB4.out.size))
            have HL5 : Hid (w5.cell? ⟨qb, 2, none⟩ = some (.int .i64 g) ∧ qb < w5.heap.size) := Lib.hid ⟨l2, by rw [hw5, hqb]; simp⟩
            have hL := els_loadE (w := w5) HOw5.out (show q < k + 1 by omega)
            have hLd := els_loadE (w := w5.drew) (ownE_keep HOw5.out fun _ _ => rfl) (show q < k + 1 by omega)
            rw [← hw5, ← hqb]
            clear hw5 hqb hb5 hg5 hr5
            refine wp_region_still_tail 14 (by kernel_rfl) (by kernel_rfl) ?_
            simp only [List.take_succ_cons, List.take_zero, List.drop_succ_cons, List.drop_zero]
            iterate 11 still_step
            refine wpStill_want rfl (fun K hK => still_loadV 90 (.tmp 60) g3 (q * 101) _ rfl (by go_simp) (by first | exact hL | exact hLd) (hK _ ?_))
            clear hK K
            simp only [Act.put, List.setIfInBounds_toArray, List.set_cons_succ, List.set_cons_zero]
            iterate 2 still_step
            refine wpStill_nil ?_
            change wpList _ _ _ _ _ w5.drew
            clear hL hLd
            go_wp2_with fail
            refine (HEn.out _).mono ?_
            rintro e w6 ⟨rfl, hb6⟩
            have HB6 := Lib.hid (HB5.out.drew.trans (hb6.mono HB5.out.size))
            have l2' : w6.cell? ⟨qb, 2, none⟩ = some (.int .i64 g) := (hb6.cell (p := ⟨qb, 2, none⟩) HL5.out.2).trans HL5.out.1
            clear hb6 l1 l2 s2
            go_wp2_with fail
            refine (timesW _ _ _ hv hwd).mono ?_
            rintro e w' ⟨rfl, rfl⟩
            go_wp2_with fail
            refine (checked _ _).mono ?_
            rintro e w' ⟨rfl, rfl⟩
            go_wp2
            go_ret2
            exact ⟨by rw [HX.out]; rfl, HB6.out⟩
          · obtain ⟨p1, p2⟩ := M.pe_small (c := cn) (show Nn ≤ sn by omega)
            rw [p1] at hr
            rw [p2] at hq
            subst hr
            subst hq
            rw [Int.zero_mul] at HX hwd
            have hw0 : IntKind.i64.wrap 0 = 0 := by kernel_rfl
            have hwq : IntKind.i64.wrap (q : Int) = (q : Int) := IntWalk.i64_in _ (by omega)
            clear p1 p2 hmu
            rcases Nat.lt_or_ge q sn with hl2 | hl2
            · have hD0 : (q : Int) - (sn : Int) < 0 := by omega
              clear hl2 hlt
              go_wp2
              obtain ⟨w5, hw5⟩ : ∃ x, x = w4.alloc (.cells #[.int .i64 sn, .int .i64 cn, .int .i64 g] 81) := ⟨_, rfl⟩
              obtain ⟨qb, hqb⟩ : ∃ x, x = w4.heap.size := ⟨_, rfl⟩
              have hb5 : Below w4.heap.size w4 w5 := by rw [hw5]; exact b_alloc _ _
              have hg5 : w5.heap[qb]? = some (.cells #[.int .i64 sn, .int .i64 cn, .int .i64 g] 81 (0, 0)) := by rw [hw5, hqb]; exact heap_alloc_last _ _
              have l1 : w5.cell? ⟨qb, 1, none⟩ = some (.int .i64 cn) := by rw [cell_of_row _ _ _ _ _ _ hg5]; rfl
              have l2 : w5.cell? ⟨qb, 2, none⟩ = some (.int .i64 g) := by rw [cell_of_row _ _ _ _ _ _ hg5]; rfl
              have HOw5 := Lib.hid (ownE_keep (w' := w5) HOw.out fun j hj => hb5.block j (World.ownsRow.lt HOw.out j hj).2)
              have hr5 := World.rowIs.of_block (w' := w5) HRow.out (hb5.block p (World.rowIs.lt HRow.out))
              have s2 : w5.cell? ⟨p, 2, none⟩ = some (.slice (some ⟨g3, 0, none⟩) (k + 1) c3) := World.rowIs.cell hr5 (i := 2) (by omega)
              have HB5 := Lib.hid (HB4.out.trans (hb5.mono HB4.out.size))
              have HL5 : Hid (w5.cell? ⟨qb, 2, none⟩ = some (.int .i64 g) ∧ qb < w5.heap.size) := Lib.hid ⟨l2, by rw [hw5, hqb]; simp⟩
              have hL := els_loadE (w := w5) HOw5.out (show q < k + 1 by omega)
              have hLd := els_loadE (w := w5.drew) (ownE_keep HOw5.out fun _ _ => rfl) (show q < k + 1 by omega)
              rw [← hw5, ← hqb]
              clear hw5 hqb hb5 hg5 hr5
              refine wp_region_still_tail 14 (by kernel_rfl) (by kernel_rfl) ?_
              simp only [List.take_succ_cons, List.take_zero, List.drop_succ_cons, List.drop_zero]
              iterate 11 still_step
              refine wpStill_want rfl (fun K hK => still_loadV 90 (.tmp 60) g3 (q * 101) _ rfl (by go_simp) (by first | exact hL | exact hLd) (hK _ ?_))
              clear hK K
              simp only [Act.put, List.setIfInBounds_toArray, List.set_cons_succ, List.set_cons_zero]
              iterate 2 still_step
              refine wpStill_nil ?_
              change wpList _ _ _ _ _ w5.drew
              clear hL hLd
              go_wp2_with fail
              refine (HEn.out _).mono ?_
              rintro e w6 ⟨rfl, hb6⟩
              have HB6 := Lib.hid (HB5.out.drew.trans (hb6.mono HB5.out.size))
              have l2' : w6.cell? ⟨qb, 2, none⟩ = some (.int .i64 g) := (hb6.cell (p := ⟨qb, 2, none⟩) HL5.out.2).trans HL5.out.1
              clear hb6 l1 l2 s2
              go_wp2_with fail
              refine (timesW _ _ _ hv hwd).mono ?_
              rintro e w' ⟨rfl, rfl⟩
              go_wp2_with fail
              refine (checked _ _).mono ?_
              rintro e w' ⟨rfl, rfl⟩
              go_wp2
              go_ret2
              exact ⟨by rw [HX.out]; rfl, HB6.out⟩
            · obtain rfl : sn = q := by omega
              clear hl2 hlt
              go_wp2
              obtain ⟨w5, hw5⟩ : ∃ x, x = w4.alloc (.cells #[.int .i64 sn, .int .i64 cn, .int .i64 g] 81) := ⟨_, rfl⟩
              obtain ⟨qb, hqb⟩ : ∃ x, x = w4.heap.size := ⟨_, rfl⟩
              have hb5 : Below w4.heap.size w4 w5 := by rw [hw5]; exact b_alloc _ _
              have hg5 : w5.heap[qb]? = some (.cells #[.int .i64 sn, .int .i64 cn, .int .i64 g] 81 (0, 0)) := by rw [hw5, hqb]; exact heap_alloc_last _ _
              have l1 : w5.cell? ⟨qb, 1, none⟩ = some (.int .i64 cn) := by rw [cell_of_row _ _ _ _ _ _ hg5]; rfl
              have l2 : w5.cell? ⟨qb, 2, none⟩ = some (.int .i64 g) := by rw [cell_of_row _ _ _ _ _ _ hg5]; rfl
              have HOw5 := Lib.hid (ownE_keep (w' := w5) HOw.out fun j hj => hb5.block j (World.ownsRow.lt HOw.out j hj).2)
              have hr5 := World.rowIs.of_block (w' := w5) HRow.out (hb5.block p (World.rowIs.lt HRow.out))
              have s2 : w5.cell? ⟨p, 2, none⟩ = some (.slice (some ⟨g3, 0, none⟩) (k + 1) c3) := World.rowIs.cell hr5 (i := 2) (by omega)
              have HB5 := Lib.hid (HB4.out.trans (hb5.mono HB4.out.size))
              have HL5 : Hid (w5.cell? ⟨qb, 2, none⟩ = some (.int .i64 g) ∧ qb < w5.heap.size) := Lib.hid ⟨l2, by rw [hw5, hqb]; simp⟩
              have hL := els_loadE (w := w5) HOw5.out (show sn < k + 1 by omega)
              have hLd := els_loadE (w := w5.drew) (ownE_keep HOw5.out fun _ _ => rfl) (show sn < k + 1 by omega)
              rw [← hw5, ← hqb]
              clear hw5 hqb hb5 hg5 hr5
              refine wp_region_still_tail 14 (by kernel_rfl) (by kernel_rfl) ?_
              simp only [List.take_succ_cons, List.take_zero, List.drop_succ_cons, List.drop_zero]
              iterate 11 still_step
              refine wpStill_want rfl (fun K hK => still_loadV 90 (.tmp 60) g3 (sn * 101) _ rfl (by go_simp) (by first | exact hL | exact hLd) (hK _ ?_))
              clear hK K
              simp only [Act.put, List.setIfInBounds_toArray, List.set_cons_succ, List.set_cons_zero]
              iterate 2 still_step
              refine wpStill_nil ?_
              change wpList _ _ _ _ _ w5.drew
              clear hL hLd
              go_wp2_with fail
              refine (HEn.out _).mono ?_
              rintro e w6 ⟨rfl, hb6⟩
              have HB6 := Lib.hid (HB5.out.drew.trans (hb6.mono HB5.out.size))
              have l2' : w6.cell? ⟨qb, 2, none⟩ = some (.int .i64 g) := (hb6.cell (p := ⟨qb, 2, none⟩) HL5.out.2).trans HL5.out.1
              clear hb6 l1 l2 s2
              go_wp2_with fail
              refine (timesW _ _ _ hv hwd).mono ?_
              rintro e w' ⟨rfl, rfl⟩
              go_wp2_with fail
              refine (checked _ _).mono ?_
              rintro e w' ⟨rfl, rfl⟩
              go_wp2
              go_ret2
              exact ⟨by rw [HX.out]; rfl, HB6.out⟩
        · have HE5 : Hid (M.peRes R Nn i j = (0, d)) := Lib.hid (HE4.out.trans (if_neg hd))
          clear hels hf hb
          go_wp2
          go_ret2
          exact ⟨by rw [HE5.out]; rfl, HB4.out.alloc HB4.out.size _⟩
      | false =>
        have HE : Hid (M.peRes R Nn i j = (0, 2)) := by
          show _ = _
          unfold M.peRes
          rw [if_pos hs, if_neg (by rw [hRn, ← hb2]; simp)]
        clear h hs hb2 N1 N2
        go_enter Try.func29, Try.ntmps29
        go_wp2_with (go_at_call 78; refine (isSquare_b _ _ _ R _ true HS.out HA.out).mono ?_; rintro e w' ⟨rfl, rfl⟩)
        go_wp2_with fail
        refine (areNodes_b _ n _ _ _ _ _ _ false HN.out (by omega) (ints_pair _ _ _)).mono ?_
        rintro e w' ⟨rfl, rfl⟩
        go_wp2
        go_ret2
        exact ⟨by rw [HE.out]; rfl, b_alloc _ _⟩
    · have HE : Hid (M.peRes R N i j = (0, 2)) := by
        show _ = _
        unfold M.peRes
        rw [if_pos hs, if_neg (by rintro ⟨z1, z2, -⟩; exact hN ⟨z1, z2⟩)]
      clear h hs
      by_cases q1 : N < 0
      · clear hN
        go_enter Try.func29, Try.ntmps29
        go_wp2_with (go_at_call 78; refine (isSquare_b _ _ _ R _ true HS.out HA.out).mono ?_; rintro e w' ⟨rfl, rfl⟩)
        go_ret2
        exact ⟨by rw [HE.out]; rfl, Below.refl _ _⟩
      · have q2 : 100000 < N := by omega
        clear hN
        go_enter Try.func29, Try.ntmps29
        go_wp2_with (go_at_call 78; refine (isSquare_b _ _ _ R _ true HS.out HA.out).mono ?_; rintro e w' ⟨rfl, rfl⟩)
        go_ret2
        exact ⟨by rw [HE.out]; rfl, Below.refl _ _⟩
  · have hs' : M.sqB R = false := by simpa using hs
    have HS := Lib.hid hs'
    have HE : Hid (M.peRes R N i j = (0, 1)) := by show _ = _; unfold M.peRes; rw [if_neg hs]
    clear h hs hs'
    go_enter Try.func29, Try.ntmps29
    go_wp2_with (go_at_call 78; refine (isSquare_b _ _ _ R _ false HS.out HA.out).mono ?_; rintro e w' ⟨rfl, rfl⟩)
    go_ret2
    exact ⟨by rw [HE.out]; rfl, Below.refl _ _⟩
end Go.Proofs.Ytcofjjipjcekjab.V
