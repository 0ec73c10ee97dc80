/- Paths and cycles: their weights, in the program and in the model. -/
import Derived.Test.YthonlfjjgmmnpabRows
import Derived.Test.YthonlfjjgmmnpabPln
import Derived.Test.YthonlfjjgmmnpabHelp
import Derived.Test.YthonlfjjgmmnpabRows0
import Derived.Test.YthonlfjjgmmnpabOwn
import Derived.Test.YthonlfjjgmmnpabMat0
import Derived.WalkKit
import Derived.ProofKit
import Derived.WalkSmall
import Derived.Deep.QuietTactic
import Derived.BigQuiet
import Derived.BigRegion
import Derived.Deep.Draws
import Derived.Deep.RegionWith
import Derived.Deep.RegionHeld3
import Derived.Lib.Hide
import Derived.IntWalk
import Derived.OpenShut
import Derived.Deep.OwnRows
import Derived.Test.YthonlfjjgmmnpabVals0
import Derived.Test.YthonlfjjgmmnpabVals
import Derived.Test.YthonlfjjgmmnpabApp
import Derived.Test.YthonlfjjgmmnpabSBot
import Derived.Test.YthonlfjjgmmnpabSAdd
import Derived.Test.YthonlfjjgmmnpabVec
import Derived.Test.YthonlfjjgmmnpabIsMat
import Derived.Test.YthonlfjjgmmnpabPth1
import Derived.Test.YthonlfjjgmmnpabPth2
namespace Go.Proofs.Ythonlfjjgmmnpab.V
open Go.RowKit

theorem caps_own {w : World} {B n cap : Nat} {a : Option Addr} {l : List Int} (h : Own w B (.slice a n cap) l) : n ≤ cap ∧ cap ≤ maxLen := by
  obtain ⟨a', c', hv, h1, h2, _⟩ := own_form h
  injection hv with e1 e2 e3
  subst e2 e3
  exact ⟨h1, h2⟩
theorem has_snoc (l : List Int) (k : Nat) (h : k < l.length) (x : Int) : M.hasB (l.take (k + 1)) x = (M.hasB (l.take k) x || decide (x = l.getD k 0)) := by
  rw [M.take_snoc l k h, Bool.eq_iff_iff]
  simp [M.hasB, List.contains_iff_mem]

set_option maxRecDepth 100000 in
set_option maxHeartbeats 1000000 in
theorem areDifferent (n : Nat) (a' : Option Addr) (N cap' : Nat) (l : List Int) (w : World) (h' : Ints .i64 w a' N l) (hv : M.nodesB n l = true) (n2 : n ≤ 10) :
    Calls Try.prog 124 #[.slice a' N cap'] w fun e w' => e = .returned (.bool (M.diffB l)) ∧ Below w.heap.size w w' := by
  have HI := Lib.hid h'
  have HV := Lib.hid hv
  have HL := Lib.hid h'.1
  have hm := h'.2.1
  unfold maxLen at hm
  have hr0 : Hid ((w.alloc (.cells #[.bool false, .bool false, .bool false, .bool false, .bool false, .bool false, .bool false, .bool false, .bool false, .bool false] 126)).rowIs w.heap.size 126 10 (fun s => .bool (M.hasB (l.take 0) (s : Int)))) :=
    World.rowIs_alloc w _ _ _ (fun i hi => by
      have : i = 0 ∨ i = 1 ∨ i = 2 ∨ i = 3 ∨ i = 4 ∨ i = 5 ∨ i = 6 ∨ i = 7 ∨ i = 8 ∨ i = 9 := by simp at hi; omega
      rcases this with rfl | rfl | rfl | rfl | rfl | rfl | rfl | rfl | rfl | rfl <;> rfl)
  have hb0 : Hid (Below w.heap.size w (w.alloc (.cells #[.bool false, .bool false, .bool false, .bool false, .bool false, .bool false, .bool false, .bool false, .bool false, .bool false] 126))) := b_alloc w _
  have hd0 : Hid (∀ i, i < 0 → M.hasB (l.take i) (l.getD i 0) = false) := fun i hi => absurd hi (Nat.not_lt_zero i)
  clear h' hv
  go_enter Try.func124, Try.ntmps124
  go_wp2
  go_loopw [5, 8] (fun _ i wr => ∃ k : Nat, k ≤ N ∧ i = .int .i64 k ∧ wr.rowIs w.heap.size 126 10 (fun s => .bool (M.hasB (l.take k) (s : Int))) ∧ Below w.heap.size w wr ∧ Hid (∀ i, i < k → M.hasB (l.take i) (l.getD i 0) = false)) (fun _ i _ => N - (intOf i).toNat)
  case atStart => exact ⟨0, Nat.zero_le _, rfl, hr0.out, hb0.out, hd0⟩
  case round =>
    obtain ⟨k, hk, rfl, hR, hB, HD⟩ := hrel
    have HR := Lib.hid hR
    have HB := Lib.hid hB
    clear hR hB hr0 hb0 hd0
    by_cases hlt : k < N
    · have hki : (k : Int) < (N : Int) := by omega
      have hl := HL.out
      obtain ⟨b', off', x, rfl, hd, hx, c1⟩ := (HI.out.below HB.out).at k hlt
      have hb1 := M.nodesB_at HV.out (k := k) (by omega)
      have hv1 : x = ((M.vx l k : Nat) : Int) := by rw [hx]; unfold M.vx; omega
      have hw1 := M.vx_lt HV.out (k := k) (by omega)
      have hx2 : ((M.vx l k : Nat) : Int) = l.getD k 0 := by rw [← hv1, hx]
      generalize M.vx l k = u at hv1 hw1 hx2
      subst hv1
      have hu : u < 10 := by omega
      have hu2 : (u : Int) < 10 := by omega
      obtain ⟨q, hq⟩ : ∃ q, q = M.hasB (l.take k) (u : Int) := ⟨_, rfl⟩
      have hc := HR.out.cell (i := u) hu
      rw [← hq] at hc
      have hf := HR.out.frozen u
      cases q with
      | true =>
        have HF : Hid (M.diffB l = false) := M.diffB_f (i := k) (by omega) (by rw [← hx2]; exact hq.symm)
        clear hq hx hx2 hl hb1
        go_wp2
        go_ret
        exact ⟨retB HF.out.symm, HB.out⟩
      | false =>
        have HD2 : Hid (∀ i, i < k + 1 → M.hasB (l.take i) (l.getD i 0) = false) := fun i hi => by
          by_cases e : i = k
          · subst e; rw [← hx2]; exact hq.symm
          · exact HD.out i (by omega)
        have HR2 : Hid ((wr.setCell ⟨w.heap.size, u, none⟩ (.bool true)).rowIs w.heap.size 126 10 (fun s => .bool (M.hasB (l.take (k + 1)) (s : Int)))) :=
          (HR.out.set u (.bool true)).congr (fun s hs => by
            have := has_snoc l k (by have := HL.out; omega) (s : Int)
            show (if s = u then Value.bool true else Value.bool (M.hasB (l.take k) (s : Int))) = Value.bool (M.hasB (l.take (k + 1)) (s : Int))
            rw [this, ← hx2]
            by_cases e : s = u
            · subst e; simp
            · have e2 : ¬ ((s : Int) = (u : Int)) := by omega
              simp [e, e2])
        clear hq hx hx2 hl hb1 HD
        go_wp2
        go_roundw
        case rel => exact ⟨k + 1, by omega, by go_num, HR2.out, HB.out.setCell (Nat.le_refl _) _, HD2⟩
        case measure => simp [intOf]; omega
    · obtain rfl : k = N := by omega
      go_wp2
      go_ret
      exact ⟨retB (M.diffB_of (fun i hi => HD.out i (by have := HL.out; omega))).symm, HB.out⟩

set_option maxRecDepth 100000 in
set_option maxHeartbeats 400000 in
theorem sHas (a' : Option Addr) (N cap' : Nat) (l : List Int) (x : Int) (w : World) (h : Ints .i64 w a' N l) :
    Calls Try.prog 103 #[.slice a' N cap', .int .i64 x] w fun e w' => e = .returned (.bool (M.hasB l x)) ∧ w = w' := by
  obtain ⟨hl, hm, hr⟩ := h
  unfold maxLen at hm
  have HL := Lib.hid hl
  clear hl
  go_enter Try.func103, Try.ntmps103
  go_wp2
  go_loop [5] (fun i => ∃ k : Nat, k ≤ N ∧ i = .int .i64 k ∧ Hid (M.hasB (l.take k) x = false)) (fun i => N - (intOf i).toNat)
  case atStart => exact ⟨0, Nat.zero_le _, rfl, rfl⟩
  case round =>
    obtain ⟨k, hk, rfl, HA⟩ := hrel
    by_cases hlt : k < N
    · rcases hr with h0 | ⟨b, off, rfl, hbl, hc⟩
      · omega
      · have hck := hc k hlt
        have hsn := has_snoc l k (by have := HL.out; omega) x
        obtain ⟨y, hy⟩ : ∃ y, y = l.getD k 0 := ⟨_, rfl⟩
        rw [← hy] at hck hsn
        have HY := Lib.hid hy
        have HS := Lib.hid hsn
        clear hc hy hsn
        by_cases hv : y = x
        · subst hv
          have HF : Hid (M.hasB l y = true) := by
            show _ = _
            rw [M.hasB_iff]
            have : k < l.length := by have := HL.out; omega
            have e := HY.out
            simp only [List.getD_eq_getElem?_getD, List.getElem?_eq_getElem this, Option.getD_some] at e
            rw [e]; exact List.getElem_mem this
          go_wp2
          go_ret
          exact ⟨retB HF.out.symm, rfl⟩
        · have HA2 : Hid (M.hasB (l.take (k + 1)) x = false) := by
            show _ = _; rw [HS.out, HA.out]; simp; omega
          have hv2 : (y == x) = false := by simpa using hv
          go_wp2
          go_round
          case rel => exact ⟨k + 1, by omega, by go_num, HA2⟩
          case measure => simp [intOf]; omega
    · have hkn : k = N := by omega
      subst hkn
      have HT : Hid (l.take k = l) := M.take_all l k (by have := HL.out; omega)
      clear hr
      go_wp2
      go_ret
      exact ⟨retB (by have h2 := HA.out; rw [HT.out] at h2; exact h2.symm), rfl⟩
theorem ints_take {w : World} {a : Option Addr} {n : Nat} {l : List Int} (h : Ints .i64 w a n l) (k : Nat) (hk : k ≤ n) : Ints .i64 w a k (l.take k) := by
  obtain ⟨h1, h2, h3⟩ := h
  refine ⟨by rw [List.length_take]; omega, by omega, ?_⟩
  rcases h3 with h0 | ⟨b, off, rfl, hb, hc⟩
  · left; omega
  · right
    refine ⟨b, off, rfl, hb, fun i hi => ?_⟩
    rw [hc i (by omega)]
    simp [List.getD_eq_getElem?_getD, List.getElem?_take, hi]
end Go.Proofs.Ythonlfjjgmmnpab.V
