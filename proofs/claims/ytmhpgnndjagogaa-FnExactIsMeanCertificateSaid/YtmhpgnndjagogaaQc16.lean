/- Texts laid together: Mark, BarZ, Cpr, Cpt. -/
import Derived.Test.YtmhpgnndjagogaaRows
import Derived.Test.YtmhpgnndjagogaaQc1
import Derived.Test.YtmhpgnndjagogaaQc3
import Derived.Test.YtmhpgnndjagogaaQc4
import Derived.WalkKit
import Derived.ProofKit
import Derived.WalkSmall
import Derived.Deep.QuietTactic
import Derived.BigQuiet
import Derived.BigRegion
import Derived.Deep.Draws
import Derived.Lib.Hide
import Derived.OpenShut
import Derived.Deep.OwnRows
import Derived.Test.YtmhpgnndjagogaaQc15
import Derived.Test.YtmhpgnndjagogaaQc13
import Derived.Test.YtmhpgnndjagogaaQc8
import Derived.Test.YtmhpgnndjagogaaQc7
import Derived.Test.YtmhpgnndjagogaaQc12
set_option linter.unusedSimpArgs false
set_option linter.unusedVariables false
set_option linter.unusedSectionVars false
namespace Go.Proofs.Ytmhpgnndjagogaa.V
open Go.RowKit

/-- Only blocks of S may have changed, and no others were added. -/
structure Chg (S : Nat → Prop) (w w' : World) : Prop where
  os : w'.os = w.os
  tape : w'.tape = w.tape
  output : w'.output = w.output
  size : w'.heap.size = w.heap.size
  other : ∀ k, ¬ S k → w'.heap[k]? = w.heap[k]?

theorem Chg.refl (S : Nat → Prop) (w : World) : Chg S w w := ⟨rfl, rfl, rfl, rfl, fun _ _ => rfl⟩
theorem Chg.trans {S : Nat → Prop} {a b c : World} (h : Chg S a b) (k : Chg S b c) : Chg S a c :=
  ⟨k.os.trans h.os, k.tape.trans h.tape, k.output.trans h.output, k.size.trans h.size, fun i hi => (k.other i hi).trans (h.other i hi)⟩
theorem Chg.mono {S S' : Nat → Prop} {a b : World} (h : Chg S a b) (hs : ∀ k, S k → S' k) : Chg S' a b :=
  ⟨h.os, h.tape, h.output, h.size, fun k hk => h.other k (fun hh => hk (hs k hh))⟩
theorem Chg.below {S : Nat → Prop} {a b : World} {B : Nat} (h : Chg S a b) (hs : ∀ k, S k → B ≤ k) : Below B a b :=
  ⟨h.os, h.tape, h.output, Nat.le_of_eq h.size.symm, fun k hk => h.other k (fun hh => by have := hs k hh; omega)⟩
theorem Chg.set {S : Nat → Prop} {a b : World} (h : Chg S a b) {g i : Nat} (hg : S g) (v : Value) : Chg S a (b.setCell ⟨g, i, none⟩ v) :=
  ⟨h.os, h.tape, h.output, by have := h.size; simpa [World.setCell] using this, fun k hk => (Below.heap_setCell _ _ _ _ (by show k ≠ g; intro e; subst e; exact hk hg)).trans (h.other k hk)⟩
theorem Own.chg {S : Nat → Prop} {w w' : World} {B : Nat} {v : Value} {l : List Int} (h : Own w B v l) (hc : Chg S w w') (hs : ∀ k, v.ownBlock = some k → ¬ S k) : Own w' B v l :=
  ownsRow_keep h fun k hk => hc.other k (hs k hk)

/-- The blocks from lo up to hi are as they were. -/
def Same (lo hi : Nat) (w w' : World) : Prop := ∀ k, lo ≤ k → k < hi → w'.heap[k]? = w.heap[k]?
theorem Same.refl (lo hi : Nat) (w : World) : Same lo hi w w := fun _ _ _ => rfl
theorem Same.below {lo hi b : Nat} {a w w' : World} (h : Same lo hi a w) (hb : Below b w w') (hh : hi ≤ b) : Same lo hi a w' :=
  fun k h1 h2 => (hb.block k (by omega)).trans (h k h1 h2)
theorem Same.chg {S : Nat → Prop} {lo hi : Nat} {a w w' : World} (h : Same lo hi a w) (hc : Chg S w w') (hs : ∀ k, lo ≤ k → k < hi → ¬ S k) : Same lo hi a w' :=
  fun k h1 h2 => (hc.other k (hs k h1 h2)).trans (h k h1 h2)

/-- One row of an owned matrix is rewritten. -/
theorem OwnV.row {w w' : World} {B : Nat} {v : Value} {R : List (List Int)} {V : List Value} {l : List Int} (h : OwnV w B v R V) (i : Nat) (hi : i < R.length) (ho : Own w' B (V.getD i (.slice none 0 0)) l)
    (hc : Chg (fun k => (V.getD i (.slice none 0 0)).ownBlock = some k) w w') : OwnV w' B v (R.set i l) V := by
  obtain ⟨h1, h2, h3, h4, h5⟩ := h
  refine ⟨by simpa using h1, ?_, ?_, ?_, ?_⟩
  · rw [List.length_set]
    exact ownsRow_keep h2 fun k hk => hc.other k (fun e => h4 i hi k e hk)
  · intro j hj
    simp only [List.length_set] at hj
    rw [getD_set _ _ _ _ _ hi]
    by_cases e : j = i
    · subst e; rw [if_pos rfl]; exact ho
    · rw [if_neg e]
      exact (h3 j hj).chg hc (fun k hk e2 => h5 j i hj hi e k hk e2)
  · intro j hj
    simp only [List.length_set] at hj
    exact h4 j hj
  · intro j t hj ht
    simp only [List.length_set] at hj ht
    exact h5 j t hj ht

set_option maxRecDepth 100000 in
set_option maxHeartbeats 400000 in
theorem markInts (a : Option Addr) (n cap B : Nat) (l : List Int) (m : Int) (w : World) (h : Own w B (.slice a n cap) l) (hn : n ≤ 1048576) (h1 : 0 ≤ m) (h2 : m ≤ 40000000) :
    Calls Try.prog 18 #[.slice a n cap, .int .i64 m] w fun e w' => e = .returned (.int .i64 (m + n)) ∧ Own w' B (.slice a n cap) (M.iota m n) ∧ Chg (fun k => (Value.slice a n cap).ownBlock = some k) w w' := by
  have HO := Lib.hid h
  have HL := Lib.hid h.len
  have hgg := own_form h
  obtain ⟨a', c', hv, -, -, hg⟩ := hgg
  injection hv with e1 e2 e3
  subst e1 e3
  rw [← e2] at hg
  clear h e2
  go_enter Try.func18, Try.ntmps18
  go_wp2
  go_loopw [1, 5] (fun x i wr => ∃ k : Nat, k ≤ n ∧ i = .int .i64 k ∧ x = .int .i64 (m + k) ∧ Own wr B (.slice a n cap) ((List.range n).map fun j => if j < k then m + (j : Int) else l.getD j 0) ∧ Chg (fun k => (Value.slice a n cap).ownBlock = some k) w wr) (fun _ i _ => n - (intOf i).toNat)
  case atStart =>
    refine ⟨0, Nat.zero_le _, rfl, by simp, ?_, Chg.refl _ _⟩
    refine (congrArg (Own _ _ _) ?_).mp HO.out
    have hl := HL.out
    apply List.ext_getElem
    · simp [hl]
    · intro i h1 h2
      simp [h1]
  case round =>
    obtain ⟨k, hk, rfl, rfl, hrow, hb⟩ := hrel
    by_cases hlt : k < n
    · obtain ⟨g, rfl, hBg, hgl⟩ := hg (by omega)
      have hst : ∃ v, wr.cell? ⟨g, k, none⟩ = some v := ⟨_, hrow.cellAt k hlt⟩
      obtain ⟨v, hst⟩ := hst
      have hfz := hrow.frozenAt k
      have HR := Lib.hid hrow
      have HB := Lib.hid hb
      clear hrow hb hg
      have hb1 : 0 ≤ m + (k : Int) := by omega
      have hb2 : m + (k : Int) ≤ 50000000 := by omega
      go_wp2
      go_roundw
      case rel =>
        refine ⟨k + 1, by omega, by go_num, vi (by omega), ?_, HB.out.set rfl _⟩
        have := Own.set HR.out k (m + k)
        rw [M.map_set] at this
        refine (congrArg (Own _ _ _) (List.map_congr_left fun j hj => ?_)).mp this
        by_cases e : j = k
        · subst e; rw [if_pos rfl, if_pos (by omega)]
        · rw [if_neg e]
          by_cases e2 : j < k
          · rw [if_pos e2, if_pos (by omega)]
          · rw [if_neg e2, if_neg (by omega)]
      case measure => simp [intOf]; omega
    · have hkn : k = n := by omega
      subst hkn
      have HR := Lib.hid hrow
      have HB := Lib.hid hb
      clear hrow hb hg
      go_wp2
      go_ret
      refine ⟨rfl, (congrArg (Own _ _ _) ?_).mp HR.out, HB.out⟩
      unfold M.iota
      exact List.map_congr_left fun j hj => by rw [if_pos (List.mem_range.1 hj)]

set_option maxRecDepth 100000 in
set_option maxHeartbeats 400000 in
theorem heldInts (a : Option Addr) (n cap : Nat) (m : Int) (w : World) (h : Ints .i64 w a n (M.iota m n)) (hn : n ≤ 1048576) (h1 : 0 ≤ m) (h2 : m ≤ 40000000) :
    Calls Try.prog 19 #[.slice a n cap, .int .i64 m] w fun e w' => e = .returned (.int .i64 (m + n)) ∧ w = w' := by
  have HI := Lib.hid h
  clear h
  go_enter Try.func19, Try.ntmps19
  go_wp2
  go_loop [1, 5] (fun x i => ∃ k : Nat, k ≤ n ∧ i = .int .i64 k ∧ x = .int .i64 (m + k)) (fun _ i => n - (intOf i).toNat)
  case atStart => exact ⟨0, Nat.zero_le _, rfl, by simp⟩
  case round =>
    obtain ⟨k, hk, rfl, rfl⟩ := hrel
    by_cases hlt : k < n
    · obtain ⟨b, off, x, rfl, hbl, hx, hc⟩ := HI.out.at k hlt
      rw [M.iota_getD m n k hlt] at hx
      subst hx
      have hb1 : 0 ≤ m + (k : Int) := by omega
      have hb2 : m + (k : Int) ≤ 50000000 := by omega
      go_wp2
      go_round
      case rel => exact ⟨k + 1, by omega, by go_num, vi (by omega)⟩
      case measure => simp [intOf]; omega
    · have hkn : k = n := by omega
      subst hkn
      go_wp2
      go_ret
      exact ⟨rfl, rfl⟩

set_option maxRecDepth 100000 in
set_option maxHeartbeats 400000 in
theorem markIntss (a : Option Addr) (n cap B : Nat) (R : List (List Int)) (m : Int) (w0 w : World) (h0 : OwnM w0 B (.slice a n cap) R) (hb0 : Same B w0.heap.size w0 w) (hn : n ≤ 1048576) (hp : M.pre R R.length ≤ 1048576) (h1 : 0 ≤ m) (h2 : m + M.pre R R.length ≤ 40000000) :
    Calls Try.prog 17 #[.slice a n cap, .int .i64 m] w fun e w' => e = .returned (.int .i64 (m + M.pre R R.length)) ∧ OwnM w' B (.slice a n cap) (M.marks m R) ∧ Chg (fun k => B ≤ k ∧ k < w0.heap.size) w w' := by
  obtain ⟨V, hV0⟩ := h0
  have hV : OwnV w B (.slice a n cap) R V := by
    obtain ⟨h1, h2, h3, h4, h5⟩ := hV0
    exact ⟨h1, ownsRow_keep h2 (fun k hv => hb0 k (own_lt h2 hv).1 (own_lt h2 hv).2), fun i hi => (h3 i hi).keep hb0, h4, h5⟩
  have hlt : ∀ i, i < n → ∀ k, (V.getD i (.slice none 0 0)).ownBlock = some k → B ≤ k ∧ k < w0.heap.size := by
    obtain ⟨e1, e2, e3, e4, e5⟩ := hV0
    have hl := OwnM.len ⟨V, e1, e2, e3, e4, e5⟩
    exact fun i hi k hk => own_lt (e3 i (by omega)) hk
  have HT := Lib.hid hlt
  have HL := Lib.hid (OwnM.len ⟨V, hV⟩)
  have hgg := own_form hV.2.1
  obtain ⟨a', c', hv, -, -, hg⟩ := hgg
  injection hv with e1 e2 e3
  subst e1 e3
  rw [← e2] at hg
  have HV := Lib.hid hV
  clear hV hlt hV0 e2 hb0
  go_enter Try.func17, Try.ntmps17
  go_wp2
  go_loopw [1, 5] (fun x i wr => ∃ (k : Nat) (y : Int), k ≤ n ∧ i = .int .i64 k ∧ x = .int .i64 y ∧ y = m + M.pre R k ∧ OwnV wr B (.slice a n cap) (M.marked m R k) V ∧ Chg (fun k => B ≤ k ∧ k < w0.heap.size) w wr) (fun _ i _ => n - (intOf i).toNat)
  case atStart => exact ⟨0, m, Nat.zero_le _, rfl, rfl, by rw [M.pre_zero]; omega, by rw [M.marked_zero]; exact HV.out, Chg.refl _ _⟩
  case round =>
    obtain ⟨k, y, hk, rfl, rfl, hy, hO, hb⟩ := hrel
    have HO := Lib.hid hO
    have HB := Lib.hid hb
    by_cases hlt : k < n
    · have hkR : k < R.length := by have := HL.out; omega
      have hps := M.pre_succ R k hkR
      have hpm := M.pre_mono R (show k + 1 ≤ R.length by omega)
      have hle := M.len_le_pre R k hkR
      obtain ⟨g, rfl, hBg, hgl⟩ := hg (by omega)
      have hrow := HO.out.2.2.1 k (by simpa using hkR)
      obtain ⟨ra, rc, hrv, hrc, hrm, hrg⟩ := own_form hrow
      have hcell : wr.cell? ⟨g, k, none⟩ = some (V.getD k (.slice none 0 0)) := by
        have e : n = (M.marked m R k).length := by have := HL.out; simpa using this
        have h2 := HO.out.2.1
        rw [← e] at h2
        rw [World.ownsRow.cellAt h2 k (by omega)]
        have := HO.out.1
        simp [show k < V.length by omega]
      rw [M.marked_rowlen m R k k hkR] at hrv hrc
      rw [hrv] at hcell hrow
      rw [M.marked_at m R k k hkR, if_neg (Nat.lt_irrefl _)] at hrow
      have y1 : 0 ≤ y := by omega
      have y2 : y ≤ 40000000 := by omega
      generalize hLn : (R.getD k []).length = L at *
      have hLs : L ≤ 1048576 := by omega
      have HY := Lib.hid hy
      have HP := Lib.hid hps
      have HRV := Lib.hid hrv
      have HRW := Lib.hid hrow
      have HLn := Lib.hid hLn
      have HTk := Lib.hid (HT.out k hlt)
      clear hO hb hg hps hpm hle hrow hrv hrg hrc hy hLn
      go_wp2_with fail
      refine (markInts _ _ _ B _ _ _ HRW.out hLs y1 y2).mono ?_
      rintro e w1 ⟨rfl, ho1, hc1⟩
      have hN : OwnV w1 B (.slice (some ⟨g, 0, none⟩) n cap) (M.marked m R (k + 1)) V := by
        have := HO.out.row k (by simpa using hkR) (l := M.iota y L) (by rw [HRV.out]; exact ho1) (by rw [HRV.out]; exact hc1)
        rw [HY.out, ← HLn.out, M.marked_set m R k hkR] at this
        exact this
      have HN := Lib.hid hN
      have HB1 := Lib.hid (HB.out.trans (hc1.mono (fun j hj => HTk.out j (by rw [HRV.out]; exact hj))))
      clear ho1 hc1 hN
      go_wp2
      go_roundw
      case rel => exact ⟨k + 1, y + L, by omega, by go_num, rfl, by rw [HY.out, HP.out]; omega, HN.out, HB1.out⟩
      case measure => simp [intOf]; omega
    · have hkn : k = n := by omega
      subst hkn
      have HY := Lib.hid hy
      clear hO hb hg hy
      go_wp2
      go_ret
      have e := HL.out
      refine ⟨by rw [HY.out, ← e]; rfl, ⟨V, ?_⟩, HB.out⟩
      unfold M.marks
      rw [← e]
      exact HO.out

set_option maxRecDepth 100000 in
set_option maxHeartbeats 400000 in
theorem heldIntss (a : Option Addr) (n cap : Nat) (R : List (List Int)) (m : Int) (w : World) (h : Mat w a n (M.marks m R)) (hp : M.pre R R.length ≤ 1048576) (h1 : 0 ≤ m) (h2 : m + M.pre R R.length ≤ 40000000) :
    Calls Try.prog 22 #[.slice a n cap, .int .i64 m] w fun e w' => e = .returned (.int .i64 (m + M.pre R R.length)) ∧ w = w' := by
  have HL : Hid (n = R.length) := by have := h.1; unfold M.marks at this; show _ = _; simpa using this.symm
  have hm := h.2.1
  have HI := Lib.hid h
  clear h
  unfold maxLen at hm
  go_enter Try.func22, Try.ntmps22
  go_wp2
  go_loop [1, 5] (fun x i => ∃ (k : Nat) (y : Int), k ≤ n ∧ i = .int .i64 k ∧ x = .int .i64 y ∧ y = m + M.pre R k) (fun _ i => n - (intOf i).toNat)
  case atStart => exact ⟨0, m, Nat.zero_le _, rfl, rfl, by rw [M.pre_zero]; omega⟩
  case round =>
    obtain ⟨k, y, hk, rfl, rfl, hy⟩ := hrel
    by_cases hlt : k < n
    · have hkR : k < R.length := by have := HL.out; omega
      have hps := M.pre_succ R k hkR
      have hpm := M.pre_mono R (show k + 1 ≤ R.length by omega)
      have hle := M.len_le_pre R k hkR
      obtain ⟨b, off, ra, rc, L, l, rfl, hbl, hll, hc, hI⟩ := HI.out.at k hlt
      unfold M.marks at hll
      rw [M.marked_at m R _ k hkR, if_pos hkR] at hll
      have hLe : L = (R.getD k []).length := by have := hI.1; rw [hll] at this; simpa using this.symm
      rw [← hLe] at hps hle hll
      rw [hll, ← hy] at hI
      have y1 : 0 ≤ y := by omega
      have y2 : y ≤ 40000000 := by omega
      have hLs : L ≤ 1048576 := by omega
      have HY := Lib.hid hy
      have HP := Lib.hid hps
      have HII := Lib.hid hI
      have hyL : 0 ≤ y + (L : Int) := by omega
      clear hI hll hps hpm hle hLe hy
      go_wp2_with fail
      refine (heldInts _ _ _ _ _ HII.out hLs y1 y2).mono ?_
      rintro e w' ⟨rfl, rfl⟩
      go_wp2
      go_round
      case rel => exact ⟨k + 1, y + L, by omega, by go_num, rfl, by rw [HY.out, HP.out]; omega⟩
      case measure => simp [intOf]; omega
    · have hkn : k = n := by omega
      subst hkn
      have HY := Lib.hid hy
      clear hy
      go_wp2
      go_ret
      have e := HL.out
      exact ⟨by rw [HY.out, ← e]; rfl, rfl⟩

/-- The same, said for the exact laws: the number is named, and what changed lies in the blocks of the marked slice. -/
theorem markM (a : Option Addr) (n cap B : Nat) (R : List (List Int)) (m : Int) (w0 w : World) (h0 : OwnM w0 B (.slice a n cap) R) (hb0 : Same B w0.heap.size w0 w) (hn : n ≤ 1048576) (hp : M.pre R R.length ≤ 1048576) (h1 : 0 ≤ m) (h2 : m + M.pre R R.length ≤ 40000000) :
    Calls Try.prog 17 #[.slice a n cap, .int .i64 m] w fun e w' => ∃ y : Int, e = .returned (.int .i64 y) ∧ 0 ≤ y ∧ Hid (y = m + M.pre R R.length) ∧ OwnM w' B (.slice a n cap) (M.marks m R) ∧ Chg (fun k => B ≤ k ∧ k < w0.heap.size) w w' := by
  refine (markIntss _ _ _ _ _ _ _ _ h0 hb0 hn hp h1 h2).mono ?_
  rintro e w' ⟨rfl, ho, hc⟩
  exact ⟨_, rfl, by omega, rfl, ho, hc⟩
theorem heldM (a : Option Addr) (n cap : Nat) (R : List (List Int)) (m y : Int) (w : World) (h : Mat w a n (M.marks m R)) (hp : M.pre R R.length ≤ 1048576) (h1 : 0 ≤ m) (h2 : m + M.pre R R.length ≤ 40000000) (hy : y = m + M.pre R R.length) :
    Calls Try.prog 22 #[.slice a n cap, .int .i64 m] w fun e w' => e = .returned (.int .i64 y) ∧ w = w' := by
  subst hy
  exact heldIntss _ _ _ _ _ _ h hp h1 h2
theorem markV (a : Option Addr) (n cap B : Nat) (l : List Int) (m : Int) (w0 w : World) (h0 : Own w0 B (.slice a n cap) l) (hb0 : Same B w0.heap.size w0 w) (hn : n ≤ 1048576) (h1 : 0 ≤ m) (h2 : m ≤ 40000000) :
    Calls Try.prog 18 #[.slice a n cap, .int .i64 m] w fun e w' => ∃ y : Int, e = .returned (.int .i64 y) ∧ 0 ≤ y ∧ Hid (y = m + n) ∧ Own w' B (.slice a n cap) (M.iota m n) ∧ Chg (fun k => B ≤ k ∧ k < w0.heap.size) w w' := by
  refine (markInts _ _ _ B l _ _ (h0.keep hb0) hn h1 h2).mono ?_
  rintro e w' ⟨rfl, ho, hc⟩
  exact ⟨_, rfl, by omega, rfl, ho, hc.mono (fun k hk => own_lt h0 hk)⟩
theorem heldV (a : Option Addr) (n cap : Nat) (m y : Int) (w : World) (h : Ints .i64 w a n (M.iota m n)) (hn : n ≤ 1048576) (h1 : 0 ≤ m) (h2 : m ≤ 40000000) (hy : y = m + n) :
    Calls Try.prog 19 #[.slice a n cap, .int .i64 m] w fun e w' => e = .returned (.int .i64 y) ∧ w = w' := by
  subst hy
  exact heldInts _ _ _ _ _ h hn h1 h2
end Go.Proofs.Ytmhpgnndjagogaa.V

namespace Go.Proofs.Ytmhpgnndjagogaa
namespace V
open Go.RowKit
theorem fld1b (w : World) (f g : Fn) : (Instr.field 87 (.agg #[.func f #[] #[], .func g #[] #[]]) 1).run Try.prog w = .ok (.func g #[] #[]) w := by
  simp [Instr.field, part, asAgg, go_sem]
theorem M.star_shift {R : List (List Int)} {n : Nat} {a b : Int} (hp : M.noPos (M.shf (M.ent R) a b) n = true) : M.starL (M.mk n n (M.shf (M.ent R) a b)) n = (M.mk n n (M.starF (M.shf (M.ent R) a b) n), true) := by
  unfold M.starL
  rw [M.noPos_congr (A' := M.shf (M.ent R) a b) fun i j hi hj => M.ent_mk _ _ _ _ _ hi hj, hp, if_pos rfl]
  unfold M.starM
  rw [M.mk_congr fun i hi j hj => M.starF_congr (A' := M.shf (M.ent R) a b) (fun i j hi hj => M.ent_mk _ _ _ _ _ hi hj) hi hj]
set_option maxRecDepth 100000 in
set_option maxHeartbeats 4000000 in
theorem bestArcs (a : Option Addr) (n cap : Nat) (R : List (List Int)) (num den : Int) (w0 : World) (h : Mat w0 a n R) (hr : Rect R n n) (n1 : 1 ≤ n) (n2 : n ≤ 10) (hs : ∀ i j, i < n → j < n → M.Sm 1000000 (M.ent R i j)) (hab : M.Near num den) (hp : M.noPos (M.shf (M.ent R) num den) n = true) :
    Calls Try.prog 54 #[.slice a n cap, .agg #[.int .i64 num, .int .i64 den]] w0 (MPost n (M.mk n n (M.bestF (M.shf (M.ent R) num den) n)) w0) := by
  obtain ⟨w, hwd⟩ : ∃ w, w = w0.alloc (rbox num den) := ⟨_, rfl⟩
  have HX : Hid (Boxed w0 w num den) := by show Boxed _ _ _ _; rw [hwd]; exact boxed _ _ _
  have HA : Hid (Mat w a n R) := h.below HX.out.below
  have HR := Lib.hid hr
  have HS := Lib.hid hs
  have HN := Lib.hid hab
  have HSt := Lib.hid (M.star_shift hp)
  have hS := M.sh_sm hs hab
  have HSh := Lib.hid hS
  have HSb : Hid (∀ i j, i < n → j < n → M.Big (M.shf (M.ent R) num den i j)) := fun i j hi hj => M.big_sm (HSh.out i j hi hj) (by omega)
  have HTb : Hid (∀ i j, i < n → j < n → M.Big (M.starF (M.shf (M.ent R) num den) n i j)) := fun i j hi hj => M.big_sm (M.star_sm n2 HSh.out hp hi hj) (by omega)
  obtain ⟨p0, p1⟩ := HX.out.cells (Below.refl _ _)
  have hz := HX.out.size
  have hfld := fld1b
  clear h hr hs hab hp hS
  go_enter Try.func54, Try.ntmps54
  go_wp2_with fail
  simp only [← hwd] at *
  clear hwd
  refine (shiftedBy _ _ _ R num den _ HA.out HR.out n1 n2 HS.out HN.out).mono ?_
  rintro e w2 ⟨a2, cap2, rfl, hO, hb⟩
  generalize M.shf (M.ent R) num den = S at *
  have HO2 : Hid (OwnM w2 w.heap.size (.slice a2 n cap2) (M.mk n n (M.midG (M.bestF S n) S 0 0))) := by show OwnM _ _ _ _; rw [M.midG_zero]; exact hO
  obtain ⟨g, -, -, -, -, hgg, -⟩ := hO.tri (rect_mk _ _ _) 0 0 0 (by omega) (by omega) (by omega)
  have HSq : Hid (Sq w2 a2 n (M.mk n n S)) := ⟨hO.mat, rect_mk _ _ _, fun i j hi hj => by rw [M.ent_mk _ _ _ _ _ hi hj]; exact HSh.out i j hi hj, n1, n2⟩
  subst hgg
  have HB2 := Lib.hid hb
  clear hO hb p0 p1
  go_wp2_with fail
  refine (starOf _ _ _ (M.mk n n S) _ HSq.out).mono ?_
  rintro e w3 ⟨a3, m3, c3, rfl, hO, hb⟩
  rw [HSt.out] at hO
  have hm3 : m3 = n := by have := hO.len; simpa using this
  subst hm3
  have HO3 := Lib.hid hO
  have HB3 := Lib.hid hb
  rw [HSt.out]
  clear hO hb
  go_wp2_with fail
  refine (maxPlus _).mono ?_
  rintro e w4 ⟨rfl, hb⟩
  have HO4 := Lib.hid (HO3.out.below hb)
  have HB4 := Lib.hid (HB3.out.trans (hb.mono HB3.out.size))
  have HO24 := Lib.hid (HO2.out.below HB4.out)
  clear hb HO3 HB3
  go_wp2
  clear hfld
  have hz2 := HB2.out.size
  have hz4 := HB4.out.size
  go_loopw [9, 10, 25] (fun _ _ i wr => ∃ s : Nat, s ≤ m3 ∧ i = .int .i64 s ∧ Hid (OwnM wr w.heap.size (.slice (some ⟨g, 0, none⟩) m3 cap2) (M.mk m3 m3 (M.midG (M.bestF S m3) S s 0))) ∧ Hid (Below w.heap.size w wr) ∧ Hid (Same w2.heap.size w4.heap.size w4 wr) ∧ Hid (wr.heap[g]? = w2.heap[g]?)) (fun _ _ i _ => m3 - (intOf i).toNat)
  case atStart =>
    refine ⟨0, Nat.zero_le _, rfl, HO24, HB2.out.trans (HB4.out.mono hz2), Same.refl _ _ _, ?_⟩
    obtain ⟨g3, q3, c3', -, -, hgg, -, hrow3, -⟩ := HO2.out.tri (rect_mk _ _ _) 0 0 0 (by omega) (by omega) (by omega)
    injection hgg with hgg
    injection hgg with hgg
    subst hgg
    exact HB4.out.block g (cell_lt hrow3)
  case round =>
    obtain ⟨s, hs, rfl, HO, HB, HSm, HG⟩ := hrel
    obtain ⟨wp, rfl⟩ : ∃ x, x = wr := ⟨_, rfl⟩
    clear HO24
    by_cases hsl : s < m3
    · have hsi : (s : Int) < (m3 : Int) := by omega
      obtain ⟨g2, q, c, q2, c2, hgg, hq, hrow, hx0, -, -, -, -, -⟩ := HO.out.tri (rect_mk _ _ _) s s s hsl hsl hsl
      injection hgg with hgg
      injection hgg with hgg
      subst hgg
      have hq2 : q < w2.heap.size := by
        have e : w2.cell? ⟨g, s, none⟩ = some (.slice (some ⟨q, 0, none⟩) m3 c) := (World.cell?_of_block (w := wp) (a := ⟨g, s, none⟩) HG.out.symm).trans hrow
        obtain ⟨g3, q3, c3', -, -, hgg, -, hrow3, hx3, -⟩ := HO2.out.tri (rect_mk _ _ _) s 0 0 hsl (by omega) (by omega)
        injection hgg with hgg
        injection hgg with hgg
        subst hgg
        rw [e] at hrow3
        injection hrow3 with h1
        injection h1 with h1
        injection h1 with h1
        injection h1 with h1
        subst h1
        exact cell_lt hx3
      have hqg : q ≠ g := row_ne hx0 hrow
      have HRow := Lib.hid hrow
      have HQ2 := Lib.hid hq2
      clear hx0 hq2
      go_wp2
      clear hrow
      go_loopw [11, 12, 32] (fun _ _ j wr => ∃ t : Nat, t ≤ m3 ∧ j = .int .i64 t ∧ Hid (wr.cell? ⟨g, s, none⟩ = some (.slice (some ⟨q, 0, none⟩) m3 c)) ∧ Hid (OwnM wr w.heap.size (.slice (some ⟨g, 0, none⟩) m3 cap2) (M.mk m3 m3 (M.midG (M.bestF S m3) S s t))) ∧ Hid (Below w.heap.size w wr) ∧ Hid (Same w2.heap.size w4.heap.size w4 wr) ∧ Hid (wr.heap[g]? = w2.heap[g]?)) (fun _ _ j _ => m3 - (intOf j).toNat)
      case atStart => exact ⟨0, Nat.zero_le _, rfl, HRow, HO, HB, HSm, HG⟩
      case round =>
        clear HO HB HSm HG
        obtain ⟨t, ht, rfl, HRt, HO, HB, HSm, HG⟩ := hrel
        by_cases htl : t < m3
        · have hti : (t : Int) < (m3 : Int) := by omega
          obtain ⟨g2, q2, c2, -, -, hgg, -, h1, h2, -, -, -, h6, ho⟩ := HO.out.tri (rect_mk _ _ _) s t t hsl htl htl
          injection hgg with hgg
          injection hgg with hgg
          subst hgg
          rw [HRt.out] at h1
          injection h1 with h1
          injection h1 with h1 _ h1c
          injection h1 with h1
          injection h1 with h1
          subst h1
          clear h1c
          rw [M.ent_mk _ _ _ _ _ hsl htl, M.midG_at] at h2
          have HO3w : Hid (OwnM wr w2.heap.size (.slice a3 m3 c3) (M.mk m3 m3 (M.starF S m3))) := HO4.out.keep fun k k1 k2 => HSm.out k k1 k2
          obtain ⟨g5, q5, c5, -, -, rfl, -, hs1, hs2, -⟩ := HO3w.out.tri (rect_mk _ _ _) t s s htl hsl hsl
          rw [M.ent_mk _ _ _ _ _ htl hsl] at hs2
          obtain ⟨x, hx⟩ : ∃ x, x = S s t := ⟨_, rfl⟩
          obtain ⟨z, hz⟩ : ∃ z, z = M.starF S m3 t s := ⟨_, rfl⟩
          obtain ⟨u, hu⟩ : ∃ u, u = M.times x z := ⟨_, rfl⟩
          rw [← hx] at h2
          rw [← hz] at hs2
          have HC1 : ∀ w : World, Calls Try.prog 107 #[.int .i64 x, .int .i64 z] w fun e w' => e = .returned (.int .i64 u) ∧ w = w' := by
            intro w
            rw [hu]
            exact clTimes _ _ _ (by rw [hx]; exact HSb.out s t hsl htl) (by rw [hz]; exact HTb.out t s htl hsl)
          have HC1' := Lib.hid HC1
          clear HC1
          have hcr := HRt.out
          by_cases hu0 : u = 0
          · have e : M.bestF S m3 s t = S s t := by unfold M.bestF; rw [← hx, ← hz, ← hu, if_pos hu0]
            have HO5 : Hid (OwnM wr w.heap.size (.slice (some ⟨g, 0, none⟩) m3 cap2) (M.mk m3 m3 (M.midG (M.bestF S m3) S s (t + 1)))) := by
              show OwnM _ _ _ _; rw [← M.midG_same _ _ _ _ _ e]; exact HO.out
            have hub : (u != 0) = false := by simp [hu0]
            clear e ho hx hz hu hu0
            go_wp2_with (go_at_call 107; refine (HC1'.out _).mono ?_; rintro e w' ⟨rfl, rfl⟩)
            go_wp2
            go_roundw
            case rel => exact ⟨t + 1, by omega, by go_num, HRt, HO5, HB, HSm, HG⟩
            case measure => simp [intOf]; omega
          · have e : M.bestF S m3 s t = -1000000000000000 := by unfold M.bestF; rw [← hx, ← hz, ← hu, if_neg hu0]
            have hN := ho (-1000000000000000)
            rw [← e, M.midG_next _ _ _ _ _ hsl, e] at hN
            have HN5 := Lib.hid hN
            have hub : (u != 0) = true := by simp [hu0]
            have HRn : Hid ((wr.setCell ⟨q, t, none⟩ (.int .i64 (-1000000000000000))).cell? ⟨g, s, none⟩ = some (.slice (some ⟨q, 0, none⟩) m3 c)) :=
              (World.cell?_of_block (w := wr) (a := ⟨g, s, none⟩) (Below.heap_setCell wr ⟨q, t, none⟩ _ g (Ne.symm hqg))).trans HRt.out
            have HSn : Hid (Same w2.heap.size w4.heap.size w4 (wr.setCell ⟨q, t, none⟩ (.int .i64 (-1000000000000000)))) := fun k k1 k2 =>
              (Below.heap_setCell wr ⟨q, t, none⟩ _ k (by have := HQ2.out; show k ≠ q; omega)).trans (HSm.out k k1 k2)
            have HGn : Hid ((wr.setCell ⟨q, t, none⟩ (.int .i64 (-1000000000000000))).heap[g]? = w2.heap[g]?) := (Below.heap_setCell wr ⟨q, t, none⟩ _ g (Ne.symm hqg)).trans HG.out
            clear e ho hN hx hz hu hu0
            go_wp2_with (go_at_call 107; refine (HC1'.out _).mono ?_; rintro e w' ⟨rfl, rfl⟩)
            go_wp2
            go_roundw
            case rel => exact ⟨t + 1, by omega, by go_num, HRn, HN5, HB.out.setCell hq _, HSn, HGn⟩
            case measure => simp [intOf]; omega
        · obtain rfl : t = m3 := by omega
          have HO5 : Hid (OwnM wr w.heap.size (.slice (some ⟨g, 0, none⟩) t cap2) (M.mk t t (M.midG (M.bestF S t) S (s + 1) 0))) := by
            show OwnM _ _ _ _; rw [← M.midG_row_end]; exact HO.out
          go_wp2
          go_roundw
          case rel => exact ⟨s + 1, by omega, by go_num, HO5, HB, HSm, HG⟩
          case measure => simp [intOf]; omega
    · obtain rfl : s = m3 := by omega
      have HO5 : Hid (OwnM wp w.heap.size (.slice (some ⟨g, 0, none⟩) s cap2) (M.mk s s (M.bestF S s))) := by
        show OwnM _ _ _ _; rw [← M.midG_end]; exact HO.out
      go_wp2
      go_ret
      exact ⟨_, _, rfl, HO5.out.mono HX.out.below.size, HX.out.trans (HB.out.mono (by omega))⟩
end V
end Go.Proofs.Ytmhpgnndjagogaa

namespace Go.Proofs.Ytmhpgnndjagogaa
namespace V
open Go.RowKit
end V
end Go.Proofs.Ytmhpgnndjagogaa

namespace Go.Proofs.Ytmhpgnndjagogaa.V
set_option maxRecDepth 100000
open Go.RowKit Go.Maps
set_option maxRecDepth 100000 in
set_option maxHeartbeats 4000000 in
theorem criticalArcs (a : Option Addr) (n cap : Nat) (R : List (List Int)) (w : World) (h : Mat w a n R) (hs : M.sqB R = true) (hc : M.hasCyc (M.ent R) R.length = true) :
    Calls Try.prog 33 #[.slice a n cap] w fun e w' => ∃ b m, e = .returned (.tuple #[.map (some b), .int .i64 0]) ∧ w.heap.size ≤ b ∧ m ≤ 100 ∧ IsArcs w' b n m (M.crB R) ∧ Below w.heap.size w w' := by
  have HA := Lib.hid h
  have hRn : R.length = n := h.1
  have HRn := Lib.hid hRn
  have HS := Lib.hid hs
  obtain ⟨hr, n1, n2, hsm⟩ := sq_parts h hs
  have HR := Lib.hid hr
  have HSm := Lib.hid hsm
  have HQ := Lib.hid (sq_of h hs)
  obtain ⟨hnear, hshm, hp⟩ := M.cr_t hs hc
  have HBc : Hid (∀ i j, i < n → j < n → (decide (M.bestF (M.crS R) n i j ≠ -1000000000000000)) = M.crB R j i) := fun i j _ _ => by
    have := M.best_crit R i j
    rw [hRn] at this
    exact this
  have hS : M.crS R = M.shf (M.ent R) (M.bestR (M.ent R) n).1 (M.bestR (M.ent R) n).2 := by
    funext i j; unfold M.crS; rw [hRn]
  rw [hRn] at hc hnear hp
  have HNo := Lib.hid hc
  obtain ⟨r, hrr⟩ : ∃ r, r = M.bestR (M.ent R) n := ⟨_, rfl⟩
  rw [← hrr] at hnear hS
  rw [hS] at hp
  have HSe := Lib.hid hS
  have HNear := Lib.hid hnear
  have HP := Lib.hid hp
  have HRr := Lib.hid hrr
  obtain ⟨r1, r2⟩ := r
  have hmm := @run_makeMap Try.prog
  clear h hs hr hsm hc hnear hp hrr hS hRn hshm
  go_enter Try.func33, Try.ntmps33
  go_wp2_with fail
  refine (isSquare_b _ _ _ R _ true HS.out HA.out).mono ?_
  rintro e w' ⟨rfl, rfl⟩
  go_wp2_with fail
  refine (hasCycle _ _ _ R _ HQ.out HSm.out).mono ?_
  rintro e w1 ⟨rfl, hb⟩
  rw [HNo.out]
  have HB1 := Lib.hid hb
  clear hb
  go_wp2_with fail
  obtain ⟨wm, hwm⟩ : ∃ x, x = w1.alloc (.map #[] 0) := ⟨_, rfl⟩
  have HI0 : Hid (IsArcs wm w1.heap.size n 0 (fun _ _ => false)) := by show IsArcs _ _ _ _ _; rw [hwm]; exact isArcs_made _ _
  have HBm : Hid (Below w.heap.size w wm) := by show Below _ _ _; rw [hwm]; exact HB1.out.alloc HB1.out.size _
  simp only [← hwm]
  clear hwm hmm
  refine (powerMean _ _ _ R _ (HQ.out.below HBm.out) HSm.out HNo.out).mono ?_
  rintro e w2 ⟨rfl, hb⟩
  rw [← HRr.out]
  have HI2 := Lib.hid (HI0.out.below hb HI0.out.lt)
  have HB2 := Lib.hid (HBm.out.trans (hb.mono HBm.out.size))
  clear hb
  go_wp2_with fail
  refine (bestArcs _ _ _ R r1 r2 _ (HA.out.below HB2.out) HR.out n1 n2 HSm.out HNear.out HP.out).mono ?_
  rintro e w3 ⟨b3, c3, rfl, ho, hb⟩
  rw [← HSe.out] at ho
  have HI3 := Lib.hid (HI2.out.below hb HI2.out.lt)
  have HB3 := Lib.hid (HB2.out.trans (hb.mono HB2.out.size))
  have hbs : w1.heap.size < w2.heap.size := HI2.out.lt
  have hb1 : w.heap.size ≤ w1.heap.size := HB1.out.size
  have hz3 : w2.heap.size ≤ w3.heap.size := hb.size
  obtain ⟨g, q0, L0, c0, x0, hgg, hgB, -⟩ := ho.at 0 0 (by omega) (by rw [(rect_mk n n _).2 0 (by omega)]; omega)
  subst hgg
  have HO3 := Lib.hid ho
  generalize w1.heap.size = bm at *
  clear ho hb HI0 HI2 HBm HB1
  go_wp2
  go_loopw [5, 6, 22] (fun _ _ i wr => ∃ s : Nat, s ≤ n ∧ i = .int .i64 s ∧ Hid (IsArcs wr bm n (s * n) (M.crP R s 0)) ∧ Hid (Below w.heap.size w wr) ∧ Hid (Same w2.heap.size w3.heap.size w3 wr) ∧ Hid (w3.heap.size ≤ wr.heap.size)) (fun _ _ i _ => n - (intOf i).toNat)
  case atStart => exact ⟨0, Nat.zero_le _, rfl, (HI3.out.congr fun f i _ _ => (M.crP_zero R f i).symm).mono (Nat.zero_le _), HB3, Same.refl _ _ _, Nat.le_refl _⟩
  case round =>
    obtain ⟨s, hs, rfl, HI, HB, HSa, HZ⟩ := hrel
    obtain ⟨wp, rfl⟩ : ∃ x, x = wr := ⟨_, rfl⟩
    clear HI3
    by_cases hsl : s < n
    · have hsi : (s : Int) < (n : Int) := by omega
      obtain ⟨g2, q, c, -, -, hgg, -, hrow, -⟩ := (HO3.out.keep HSa.out).tri (rect_mk _ _ _) s 0 0 hsl (by omega) (by omega)
      injection hgg with hgg
      injection hgg with hgg
      subst hgg
      have HRw0 := Lib.hid hrow
      go_wp2
      clear hrow
      go_loopw [7, 8, 29] (fun _ _ j wr => ∃ t : Nat, t ≤ n ∧ j = .int .i64 t ∧ Hid (IsArcs wr bm n (s * n + t) (M.crP R s t)) ∧ Hid (Below w.heap.size w wr) ∧ Hid (Same w2.heap.size w3.heap.size w3 wr) ∧ Hid (w3.heap.size ≤ wr.heap.size) ∧ Hid (wr.cell? ⟨g, s, none⟩ = some (.slice (some ⟨q, 0, none⟩) n c))) (fun _ _ j _ => n - (intOf j).toNat)
      case atStart => exact ⟨0, Nat.zero_le _, rfl, HI, HB, HSa, HZ, HRw0⟩
      case round =>
        clear HI HB HSa HZ HRw0
        obtain ⟨t, ht, rfl, HI, HB, HSa, HZ, HRw⟩ := hrel
        by_cases htl : t < n
        · have hti : (t : Int) < (n : Int) := by omega
          obtain ⟨g2, q2, c2, -, -, hgg, -, h1, h2, -⟩ := (HO3.out.keep HSa.out).tri (rect_mk _ _ _) s t t hsl htl htl
          injection hgg with hgg
          injection hgg with hgg
          subst hgg
          rw [HRw.out] at h1
          injection h1 with h1
          injection h1 with h1 _ h1c
          injection h1 with h1
          injection h1 with h1
          subst h1
          clear h1c
          rw [M.ent_mk _ _ _ _ _ hsl htl] at h2
          have hcr := HBc.out s t hsl htl
          obtain ⟨x, hx⟩ : ∃ x, x = M.bestF (M.crS R) n s t := ⟨_, rfl⟩
          rw [← hx] at h2 hcr
          clear hx
          by_cases hxb : x = -1000000000000000
          · have HN : Hid (IsArcs wr bm n (s * n + (t + 1)) (M.crP R s (t + 1))) := (HI.out.congr fun f i _ _ => M.crP_skip (by rw [← hcr, hxb]; simp) f i).mono (by omega)
            have hxn : (x != -1000000000000000) = false := by simp [hxb]
            clear hxb hcr
            go_wp2
            go_roundw
            case rel => exact ⟨t + 1, by omega, by go_num, HN, HB, HSa, HZ, HRw⟩
            case measure => simp [intOf]; omega
          · have hcb : M.crB R t s = true := by rw [← hcr]; simp [hxb]
            have HCb := Lib.hid hcb
            have hxn : (x != -1000000000000000) = true := by simp [hxb]
            have hM : s * n + t < 1000 := by have := Nat.mul_le_mul (show s ≤ 10 by omega) n2; omega
            clear hxb hcr hcb
            go_wp2_with (at_mapUpdate; refine wpList_putA _ rfl _ _ _ rfl bm n (s * n + t) _ t s rfl HI.out n2 hM htl hsl rfl rfl ?_; intro w1 hi1 hg1)
            have HN : Hid (IsArcs w1 bm n (s * n + (t + 1)) (M.crP R s (t + 1))) := hi1.congr fun f i _ _ => M.crP_put HCb.out f i
            have HBn : Hid (Below w.heap.size w w1) := HB.out.grown hg1 HB.out.size (fun j hj => by cases hj; exact hb1)
            have hb3 := HZ.out
            have HZn : Hid (w3.heap.size ≤ w1.heap.size) := Nat.le_trans HZ.out hg1.size
            have HSn : Hid (Same w2.heap.size w3.heap.size w3 w1) := fun k k1 k2 => (hg1.block k (by omega) (by intro e; injection e with e; omega)).trans (HSa.out k k1 k2)
            have HRn : Hid (w1.cell? ⟨g, s, none⟩ = some (.slice (some ⟨q, 0, none⟩) n c)) := (World.cell?_of_block (w := wr) (a := ⟨g, s, none⟩) (hg1.block g (cell_lt HRw.out) (by intro e; injection e with e; omega))).trans HRw.out
            clear hi1 hg1 hb3
            go_wp2
            go_roundw
            case rel => exact ⟨t + 1, by omega, by go_num, HN, HBn, HSn, HZn, HRn⟩
            case measure => simp [intOf]; omega
        · obtain rfl : t = n := by omega
          have HN : Hid (IsArcs wr bm t ((s + 1) * t) (M.crP R (s + 1) 0)) := (HI.out.congr fun f i hf _ => M.crP_row hf).mono (by rw [Nat.succ_mul]; omega)
          go_wp2
          go_roundw
          case rel => exact ⟨s + 1, by omega, by go_num, HN, HB, HSa, HZ⟩
          case measure => simp [intOf]; omega
    · obtain rfl : s = n := by omega
      go_wp2
      go_ret2
      exact ⟨bm, s * s, rfl, hb1, by have := Nat.mul_le_mul n2 n2; omega, HI.out.congr fun f i _ hi => M.crP_end hi, HB.out⟩
end Go.Proofs.Ytmhpgnndjagogaa.V

namespace Go.Proofs.Ytmhpgnndjagogaa
namespace M
def cutF (A : Nat → Nat → Int) (S : Nat → Nat → Bool) (i j : Nat) : Int := if S j i then A i j else -1000000000000000
end M
namespace V
set_option maxRecDepth 100000
open Go.RowKit Go.Maps
set_option maxRecDepth 100000 in
set_option maxHeartbeats 4000000 in
theorem criticalPart (a : Option Addr) (n cap : Nat) (R : List (List Int)) (bm m0 : Nat) (S : Nat → Nat → Bool) (w : World) (h : Mat w a n R) (hr : Rect R n n) (n1 : 1 ≤ n) (n2 : n ≤ 10) (hI : IsArcs w bm n m0 S) :
    Calls Try.prog 36 #[.slice a n cap, .map (some bm)] w (MPost n (M.mk n n (M.cutF (M.ent R) S)) w) := by
  have HA := Lib.hid h
  have HR := Lib.hid hr
  have HI := Lib.hid hI
  have HRe : Hid (M.mk n n (M.midG (M.cutF (M.ent R) S) (M.ent R) 0 0) = R) := by
    show _ = _
    rw [M.midG_zero]
    have e := M.mk_self R n (fun i hi => hr.2 i (by rw [← hr.1]; exact hi))
    rw [hr.1] at e
    exact e
  clear h hr hI
  go_enter Try.func36, Try.ntmps36
  go_wp2_with fail
  refine (copiedMatrix _ _ _ R n _ HA.out HR.out n1 n2 n1 n2).mono ?_
  rintro e w2 ⟨a2, cap2, rfl, hO, hb⟩
  rw [← HRe.out] at hO
  obtain ⟨g, -, -, -, -, rfl, -⟩ := hO.tri (rect_mk _ _ _) 0 0 0 (by omega) (by omega) (by omega)
  have HO0 := Lib.hid hO
  have HB0 := Lib.hid hb
  clear hO hb
  go_wp2
  go_loopw [6, 7, 13] (fun _ _ i wr => ∃ s : Nat, s ≤ n ∧ i = .int .i64 s ∧ Hid (OwnM wr w.heap.size (.slice (some ⟨g, 0, none⟩) n cap2) (M.mk n n (M.midG (M.cutF (M.ent R) S) (M.ent R) s 0))) ∧ Hid (Below w.heap.size w wr)) (fun _ _ i _ => n - (intOf i).toNat)
  case atStart => exact ⟨0, Nat.zero_le _, rfl, HO0, HB0⟩
  case round =>
    obtain ⟨s, hs, rfl, HOs, HBs⟩ := hrel
    obtain ⟨wp, rfl⟩ : ∃ x, x = wr := ⟨_, rfl⟩
    clear HO0 HB0
    by_cases hsl : s < n
    · have hsi : (s : Int) < (n : Int) := by omega
      obtain ⟨g2, q, c, -, -, hgg, -, hrow, -⟩ := HOs.out.tri (rect_mk _ _ _) s 0 0 hsl (by omega) (by omega)
      injection hgg with hgg
      injection hgg with hgg
      subst hgg
      have HRow := Lib.hid hrow
      go_wp2
      clear hrow
      go_loopw [8, 20] (fun _ j wr => ∃ t : Nat, t ≤ n ∧ j = .int .i64 t ∧ Hid (wr.cell? ⟨g, s, none⟩ = some (.slice (some ⟨q, 0, none⟩) n c)) ∧ Hid (OwnM wr w.heap.size (.slice (some ⟨g, 0, none⟩) n cap2) (M.mk n n (M.midG (M.cutF (M.ent R) S) (M.ent R) s t))) ∧ Hid (Below w.heap.size w wr)) (fun _ j _ => n - (intOf j).toNat)
      case atStart => exact ⟨0, Nat.zero_le _, rfl, HRow, HOs, HBs⟩
      case round =>
        clear HOs HBs HRow
        obtain ⟨t, ht, rfl, HRt, HOt, HBt⟩ := hrel
        by_cases htl : t < n
        · have hti : (t : Int) < (n : Int) := by omega
          obtain ⟨g2, q2, c2, q', c', hgg, hq, h1, h2, -, h4, -, h6, ho⟩ := HOt.out.tri (rect_mk _ _ _) s t t hsl htl htl
          injection hgg with hgg
          injection hgg with hgg
          subst hgg
          rw [HRt.out] at h1
          injection h1 with h1
          injection h1 with h1 _ h1c
          injection h1 with h1
          injection h1 with h1
          subst h1
          clear h1c
          rw [M.ent_mk _ _ _ _ _ hsl htl, M.midG_at] at h2
          have hne := row_ne h2 h4
          have HLk := (HI.out.below HBt.out HI.out.lt).look n2 t s htl hsl
          obtain ⟨x, hx⟩ : ∃ x, x = S t s := ⟨_, rfl⟩
          rw [← hx] at HLk
          cases x with
          | true =>
            have e : M.cutF (M.ent R) S s t = M.ent R s t := by unfold M.cutF; rw [← hx, if_pos rfl]
            have HO3 : Hid (OwnM wr w.heap.size (.slice (some ⟨g, 0, none⟩) n cap2) (M.mk n n (M.midG (M.cutF (M.ent R) S) (M.ent R) s (t + 1)))) := by
              show OwnM _ _ _ _; rw [← M.midG_same _ _ _ _ _ e]; exact HOt.out
            clear e ho hx h4 h6
            go_wp2
            go_roundw
            case rel => exact ⟨t + 1, by omega, by go_num, HRt, HO3, HBt⟩
            case measure => simp [intOf]; omega
          | false =>
            have e : M.cutF (M.ent R) S s t = -1000000000000000 := by unfold M.cutF; rw [← hx]; rfl
            have hN := ho (-1000000000000000)
            rw [← e, M.midG_next _ _ _ _ _ hsl, e] at hN
            have HN5 := Lib.hid hN
            have HRn : Hid ((wr.setCell ⟨q, t, none⟩ (.int .i64 (-1000000000000000))).cell? ⟨g, s, none⟩ = some (.slice (some ⟨q, 0, none⟩) n c)) :=
              (World.cell?_of_block (w := wr) (a := ⟨g, s, none⟩) (Below.heap_setCell wr ⟨q, t, none⟩ _ g (fun e => hne e.symm))).trans HRt.out
            have hcr := HRt.out
            clear e ho hN hx h4
            go_wp2
            go_roundw
            case rel => exact ⟨t + 1, by omega, by go_num, HRn, HN5, HBt.out.setCell hq _⟩
            case measure => simp [intOf]; omega
        · obtain rfl : t = n := by omega
          have HO5 : Hid (OwnM wr w.heap.size (.slice (some ⟨g, 0, none⟩) t cap2) (M.mk t t (M.midG (M.cutF (M.ent R) S) (M.ent R) (s + 1) 0))) := by
            show OwnM _ _ _ _; rw [← M.midG_row_end]; exact HOt.out
          go_wp2
          go_roundw
          case rel => exact ⟨s + 1, by omega, by go_num, HO5, HBt⟩
          case measure => simp [intOf]; omega
    · obtain rfl : s = n := by omega
      have HO5 : Hid (OwnM wp w.heap.size (.slice (some ⟨g, 0, none⟩) s cap2) (M.mk s s (M.cutF (M.ent R) S))) := by
        show OwnM _ _ _ _; rw [← M.midG_end]; exact HOs.out
      go_wp2
      go_ret
      exact ⟨_, _, rfl, HO5.out, HBs.out⟩
theorem criticalArcs_no (a : Option Addr) (n cap : Nat) (R : List (List Int)) (w : World) (h : Mat w a n R) (hc : M.crCode R ≠ 0) :
    Calls Try.prog 33 #[.slice a n cap] w fun e w' => e = .returned (.tuple #[.map none, .int .i64 (M.crCode R)]) ∧ Below w.heap.size w w' := by
  have HA := Lib.hid h
  have hRn : R.length = n := h.1
  by_cases hs : M.sqB R = true
  · have HS := Lib.hid hs
    have HQ := Lib.hid (sq_of h hs)
    have HSm := Lib.hid (sq_parts h hs).2.2.2
    have hcy : M.hasCyc (M.ent R) n = false := by
      cases e : M.hasCyc (M.ent R) n with
      | false => rfl
      | true => exact absurd (M.cr_code_of hs (by rw [hRn]; exact e)) hc
    have HNo := Lib.hid hcy
    have HE : Hid (M.crCode R = 4) := by show _ = _; unfold M.crCode; rw [if_pos hs, hRn, hcy]; rfl
    clear h hs hc hRn hcy
    go_enter Try.func33, Try.ntmps33
    go_wp2_with fail
    refine (isSquare_b _ _ _ R _ true HS.out HA.out).mono ?_
    rintro e w' ⟨rfl, rfl⟩
    go_wp2_with fail
    refine (hasCycle _ _ _ R _ HQ.out HSm.out).mono ?_
    rintro e w1 ⟨rfl, hb⟩
    rw [HNo.out]
    have HB1 := Lib.hid hb
    clear hb
    go_wp2
    go_ret2
    rw [HE.out]
    exact ⟨rfl, HB1.out⟩
  · simp only [Bool.not_eq_true] at hs
    have HS := Lib.hid hs
    have HE : Hid (M.crCode R = 1) := by show _ = _; unfold M.crCode; rw [if_neg (by rw [hs]; exact Bool.false_ne_true)]
    clear h hs hc hRn
    go_enter Try.func33, Try.ntmps33
    go_wp2_with fail
    refine (isSquare_b _ _ _ R _ false HS.out HA.out).mono ?_
    rintro e w' ⟨rfl, rfl⟩
    go_wp2
    go_ret2
    rw [HE.out]
    exact ⟨rfl, Below.refl _ _⟩
set_option maxRecDepth 100000 in
set_option maxHeartbeats 1000000 in
theorem criticalMatrix (a : Option Addr) (n cap : Nat) (R : List (List Int)) (w : World) (h : Mat w a n R) :
    Calls Try.prog 21 #[.slice a n cap] w (MRes (M.matRes R) w) := by
  have HA := Lib.hid h
  have hRn : R.length = n := h.1
  by_cases hc : M.crCode R = 0
  · obtain ⟨h1, h2⟩ := M.cr_code hc
    have H1 := Lib.hid h1
    have H2 := Lib.hid h2
    obtain ⟨hr, n1, n2, -⟩ := sq_parts h h1
    have HR := Lib.hid hr
    have HE : Hid (M.matRes R = (M.mk n n (M.cutF (M.ent R) (M.crB R)), 0)) := by show _ = _; unfold M.matRes M.crM; rw [if_pos hc, hRn]; rfl
    clear h hc h1 h2 hr hRn
    go_enter Try.func21, Try.ntmps21
    go_wp2_with fail
    refine (criticalArcs _ _ _ R _ HA.out H1.out H2.out).mono ?_
    rintro e w1 ⟨b1, m1, rfl, -, -, hI, hb⟩
    have HI := Lib.hid hI
    have HB := Lib.hid hb
    clear hI hb
    go_wp2_with fail
    refine (criticalPart _ _ _ R _ _ _ _ (HA.out.below HB.out) HR.out n1 n2 HI.out).mono ?_
    rintro e w2 ⟨b2, c2, rfl, ho, hb⟩
    have HO := Lib.hid (ho.mono HB.out.size)
    have HB2 := Lib.hid (HB.out.trans (hb.mono HB.out.size))
    clear ho hb
    go_wp2
    go_ret2
    rw [HE.out]
    exact ⟨_, _, _, rfl, HO.out, HB2.out⟩
  · have HC := Lib.hid hc
    obtain ⟨k, hk⟩ : ∃ k, k = M.crCode R := ⟨_, rfl⟩
    have HE : Hid (M.matRes R = ([], k)) := by show _ = _; unfold M.matRes; rw [if_neg hc, hk]
    have HK := Lib.hid hk
    have hk0 : (k != 0) = true := by rw [hk]; simpa using hc
    clear h hc hRn hk
    go_enter Try.func21, Try.ntmps21
    go_wp2_with fail
    refine (criticalArcs_no _ _ _ R _ HA.out HC.out).mono ?_
    rintro e w1 ⟨rfl, hb⟩
    rw [← HK.out]
    have HB := Lib.hid hb
    clear hb
    go_wp2
    go_ret2
    exact MRes.nil HE.out HB.out
end V
end Go.Proofs.Ytmhpgnndjagogaa
