/- Texts laid together: Dmg, Rm5, Like. -/
import Derived.Test.YtlcjmcoljclpgaaDoorRows
import Derived.Test.YtlcjmcoljclpgaaDoorQd1
import Derived.Test.YtlcjmcoljclpgaaDoorQd2
import Derived.Test.YtlcjmcoljclpgaaDoorQd3
import Derived.Test.YtlcjmcoljclpgaaDoorQd4
import Derived.Test.YtlcjmcoljclpgaaDoorQd7
import Derived.WalkKit
import Derived.ProofKit
import Derived.WalkSmall
import Derived.Deep.QuietTactic
import Derived.BigQuiet
import Derived.BigRegion
import Derived.Deep.Draws
import Derived.Deep.OwnRows
import Derived.Deep.RegionWith
import Derived.Lib.Hide
import Derived.Test.YtlcjmcoljclpgaaDoorQd5
import Derived.Test.YtlcjmcoljclpgaaDoorQd6
import Derived.OpenShut
set_option linter.unusedSimpArgs false
set_option linter.unusedVariables false
set_option linter.unusedSectionVars false
namespace Go.Proofs.YtlcjmcoljclpgaaDoor.V
open Go.RowKit

/-- What a damaged text is. -/
def StrPost (m g : Nat) (w : World) (e : Ending) (w' : World) : Prop :=
  ∃ s : ByteArray, e = .returned (.string s) ∧ s.size ≤ m ∧ Src w' g ∧ Thr g w w'

theorem ex_size (t : ByteArray) (i j : Nat) : (t.extract i j).size ≤ min j t.size - i := by
  rw [ByteArray.size_extract]; omega
theorem cut_len (k : Nat) (t : ByteArray) : (t.extract 0 k).size ≤ t.size + 1 := by
  have := ex_size t 0 k
  omega
theorem cut2_len (k : Nat) (t : ByteArray) : (t.extract 0 k ++ t.extract (k + 1) t.size).size ≤ t.size + 1 := by
  have h1 := ex_size t 0 k
  have h2 := ex_size t (k + 1) t.size
  rw [ByteArray.size_append]
  omega
theorem cut3_len (k : Nat) (t x : ByteArray) (hx : x.size = 1) : (t.extract 0 k ++ x ++ t.extract k t.size).size ≤ t.size + 1 := by
  have h1 := ex_size t 0 k
  have h2 := ex_size t k t.size
  rw [ByteArray.size_append, ByteArray.size_append]
  omega
/-- The texts that may be put in. -/
def ins (c : Nat) : ByteArray := ⟨#[[48, 49, 32, 45, 46, 44, 10, 59].getD c 48]⟩
theorem ins_size (c : Nat) : (ins c).size = 1 := rfl
def insV : Array Value := #[.string ⟨#[48]⟩, .string ⟨#[49]⟩, .string ⟨#[32]⟩, .string ⟨#[45]⟩, .string ⟨#[46]⟩, .string ⟨#[44]⟩, .string ⟨#[10]⟩, .string ⟨#[59]⟩]
theorem ins_get (c : Nat) (hc : c < 8) : insV[c]? = some (.string (ins c)) := by
  match c, hc with
  | 0, _ => rfl
  | 1, _ => rfl
  | 2, _ => rfl
  | 3, _ => rfl
  | 4, _ => rfl
  | 5, _ => rfl
  | 6, _ => rfl
  | 7, _ => rfl
theorem ins_pick (c : Nat) (hc : c < 8) : [Value.string ⟨#[48]⟩, .string ⟨#[49]⟩, .string ⟨#[32]⟩, .string ⟨#[45]⟩, .string ⟨#[46]⟩, .string ⟨#[44]⟩, .string ⟨#[10]⟩, .string ⟨#[59]⟩][c] = .string (ins c) := by
  match c, hc with
  | 0, _ => rfl
  | 1, _ => rfl
  | 2, _ => rfl
  | 3, _ => rfl
  | 4, _ => rfl
  | 5, _ => rfl
  | 6, _ => rfl
  | 7, _ => rfl
theorem ins_cell (W : World) (T c : Nat) (hc : c < 8) : (W.alloc (.cells insV T)).cell? ⟨W.heap.size, c, none⟩ = some (.string (ins c)) := by
  have e : (W.alloc (.cells insV T)).heap[W.heap.size]? = some (.cells insV T (0, 0)) := by
    show (W.heap.push _)[W.heap.size]? = _
    simp
  simp only [World.cell?, e]
  simp [ins_get c hc]

theorem vtxt_len9 {t : ByteArray} {a : Int} (h : t = ⟨(vtxt a).toArray⟩) : t.size ≤ 900 := by
  subst h
  show (vtxt a).toArray.size ≤ 900
  rw [List.size_toArray, vtxt]
  split
  · rename_i hv
    obtain ⟨b1, b2⟩ := M.isVal_bound hv
    rw [txt]
    split
    · simp
    · rw [Go.Lib.itoa]
      have := M.dlen7 18
      split
      · have := this a.natAbs (by omega)
        simp
        omega
      · have := this a.toNat (by omega)
        omega
  · simp

set_option maxRecDepth 100000 in
set_option maxHeartbeats 1000000 in
set_option maxRecDepth 100000 in
theorem damage (g : Nat) (t : ByteArray) (w : World) (h : Src w g) (ht : t.size ≤ 100000) :
    Calls Tryd.prog 50 #[.pointer (some ⟨g, 0, none⟩), .string t] w (StrPost (t.size + 1) g w) := by
  have HW := Lib.hid h
  clear h
  go_enter Tryd.func50, Tryd.ntmps50
  go_wp2_with fail
  refine (next _ _ _ (wf_small _ (by omega) (by omega)) HW.out).mono ?_
  rintro e w1 ⟨k, rfl, hk1, hk2, hs, ht1⟩
  obtain ⟨k, rfl⟩ := Int.eq_ofNat_of_zero_le hk1
  have hk : k ≤ t.size := by omega
  have HT := Lib.hid ht1
  have HS := Lib.hid hs
  clear ht1 hs hk2
  go_wp2_with fail
  refine (next _ _ _ (by decide) HS.out).mono ?_
  rintro e w2 ⟨x, rfl, hx1, hx2, hs, ht2⟩
  have HT2 := Lib.hid (HT.out.trans ht2)
  have HS2 := Lib.hid hs
  clear ht2 hs hx2
  by_cases h0 : x = 0
  · subst h0
    go_wp2
    go_ret
    exact ⟨_, rfl, cut_len k t, HS2.out, HT2.out⟩
  · have e0 : (x == 0) = false := by simp; omega
    by_cases h1 : x = 1
    · subst h1
      go_wp2_with fail
      have l2 := HS2.out.lt
      go_region_with (first | (go_at_call 49; refine (next _ _ _ (by decide) (by first | exact HS2.out | exact HS2.out.alloc _)).mono ?_; rintro e w3 ⟨c, rfl, hc1, hc2, hs3, ht3⟩; obtain ⟨c, rfl⟩ := Int.eq_ofNat_of_zero_le hc1; have hc8 : c < 8 := (by omega); have hin : (ins c).size = 1 := rfl; have hpk := ins_pick c hc8; have hci : (c : Int) < 8 := (by omega); (try have hcell := (ht3.cell (p := ⟨_, c, none⟩) (by simp) (by show w2.heap.size ≠ g; omega)).trans (ins_cell _ _ c hc8)); (try have hcell := ins_cell w3 9 c hc8); have HT3 := Lib.hid ht3; have HS3 := Lib.hid hs3; clear hs3 ht3 hc2))
      all_goals
        go_wp2
        go_ret
      · exact ⟨_, rfl, cut3_len k t _ rfl, HS3.out, (HT2.out.drew.alloc (Nat.le_of_lt l2) _).trans HT3.out⟩
      · exact ⟨_, rfl, cut3_len k t _ rfl, HS3.out.alloc _, (HT2.out.drew.trans HT3.out).alloc (Nat.le_of_lt HS3.out.lt) _⟩
    · have e1 : (x == 1) = false := by simp; omega
      by_cases h2 : x = 2
      · subst h2
        by_cases hlt : k < t.size
        · have hki : (k : Int) < (t.size : Int) := by omega
          go_wp2_with fail
          go_region
          go_wp2
          go_ret
          exact ⟨_, rfl, cut2_len k t, HS2.out, HT2.out.drew⟩
        · have hki : ¬ (k : Int) < (t.size : Int) := by omega
          go_wp2_with fail
          go_ret
          exact ⟨_, rfl, by omega, HS2.out, HT2.out⟩
      · have e2 : (x == 2) = false := by simp; omega
        go_wp2_with fail
        go_ret
        exact ⟨_, rfl, by omega, HS2.out, HT2.out⟩

def DrawnV (w : World) (e : Ending) (w' : World) : Prop := ∃ x : Int, e = .returned (.int .i64 x) ∧ (Lit.int .i64 x).wf = true ∧ Below w.heap.size w w'
def DrawnS (w : World) (e : Ending) (w' : World) : Prop := ∃ s : ByteArray, e = .returned (.string s) ∧ s.size ≤ 200000 ∧ Below w.heap.size w w'


end Go.Proofs.YtlcjmcoljclpgaaDoor.V

namespace Go.Proofs.YtlcjmcoljclpgaaDoor.V
open Go.RowKit

set_option maxRecDepth 100000 in
set_option maxHeartbeats 1000000 in
theorem drawMatrixText (a : Option Addr) (n cap : Nat) (w : World) (h : Bytes w a n) :
    Calls Tryd.prog 17 #[.slice a n cap] w (DrawnM w) := by
  have HB := Lib.hid h
  clear h
  go_enter Tryd.func17, Tryd.ntmps17
  go_wp2_with fail
  refine (from_ _ _ _ _ HB.out).mono ?_
  rintro e w1 ⟨rfl, hs1, hb1⟩
  have HS1 := Lib.hid hs1
  have HB1 := Lib.hid hb1
  clear hs1 hb1
  go_wp2_with fail
  refine (draw _ _ HS1.out).mono ?_
  rintro e w2 ⟨a2, n2, c2, R, rfl, ho, hs2, ht2⟩
  have HO := Lib.hid ho.mat
  have HB2 := Lib.hid (HB1.out.trans ht2.below)
  clear ho hs2 ht2
  go_wp2
  go_ret
  exact ⟨a2, n2, c2, R, rfl, HO.out, HB2.out⟩

set_option maxRecDepth 100000 in
set_option maxHeartbeats 1000000 in
theorem drawReadMatrix (a : Option Addr) (n cap : Nat) (w : World) (h : Bytes w a n) :
    Calls Tryd.prog 20 #[.slice a n cap] w (DrawnS w) := by
  have HB := Lib.hid h
  clear h
  go_enter Tryd.func20, Tryd.ntmps20
  go_wp2_with fail
  refine (from_ _ _ _ _ HB.out).mono ?_
  rintro e w1 ⟨rfl, hs1, hb1⟩
  have HS1 := Lib.hid hs1
  have HB1 := Lib.hid hb1
  clear hs1 hb1
  go_wp2_with fail
  refine (draw _ _ HS1.out).mono ?_
  rintro e w2 ⟨a2, n2, c2, R, rfl, ho, hs2, ht2⟩
  have HO := Lib.hid ho.mat
  have HS2 := Lib.hid hs2
  have HB2 := Lib.hid (HB1.out.trans ht2.below)
  clear ho hs2 ht2
  go_wp2_with fail
  refine (sMatrixText _ _ _ _ _ HO.out).mono ?_
  rintro e w3 ⟨t, rfl, ht, hb3⟩
  have htl : t.size ≤ 2110 := by
    rw [ht]
    have := mtxt_len R
    simpa [ByteArray.size] using this
  have HS3 := Lib.hid (HS2.out.below (hb3.mono (by have := HS2.out.lt; omega)))
  have HB3 := Lib.hid (HB2.out.trans (hb3.mono HB2.out.size))
  clear hb3 ht
  go_wp2_with fail
  refine (next _ _ _ (by decide) HS3.out).mono ?_
  rintro e w4 ⟨c, rfl, hc1, hc2, hs4, ht4⟩
  have HS4 := Lib.hid hs4
  have HB4 := Lib.hid (HB3.out.trans ht4.below)
  clear hs4 ht4 hc2
  by_cases h0 : c = 0
  · subst h0
    go_wp2_with fail
    refine (damage _ t _ HS4.out (by omega)).mono ?_
    rintro e w5 ⟨u, rfl, hu, hs5, ht5⟩
    have HB5 := Lib.hid (HB4.out.trans ht5.below)
    clear hs5 ht5
    go_wp2
    go_ret
    exact ⟨_, rfl, by omega, HB5.out⟩
  · have e0 : (c == 0) = false := by simp; omega
    go_wp2
    go_ret
    exact ⟨_, rfl, by omega, HB4.out⟩
end Go.Proofs.YtlcjmcoljclpgaaDoor.V

namespace Go.Proofs.YtlcjmcoljclpgaaDoor.V
open Go.RowKit

set_option maxRecDepth 100000 in
set_option maxHeartbeats 400000 in
theorem likeInts (a : Option Addr) (n cap : Nat) (l : List Int) (a' : Option Addr) (n' cap' : Nat) (l' : List Int) (w : World) (h : Ints .i64 w a n l) (h' : Ints .i64 w a' n' l') (heq : l = l') :
    Calls Tryd.prog 54 #[.slice a n cap, .slice a' n' cap'] w fun e w' => e = .returned (.bool true) ∧ ∃ q, w' = w.drewN q := by
  subst heq
  obtain ⟨hl, hm, hr⟩ := h
  obtain ⟨hl', hm', hr'⟩ := h'
  obtain rfl : n = n' := by omega
  unfold maxLen at hm
  clear hm'
  have HL := Lib.hid hl
  clear hl hl'
  go_enter Tryd.func54, Tryd.ntmps54
  go_wp2
  go_loopw [5] (fun i wr => ∃ k : Nat, k ≤ n ∧ i = .int .i64 k ∧ ∃ q, wr = w.drewN q) (fun i _ => n - (intOf i).toNat)
  case atStart => exact ⟨0, Nat.zero_le _, rfl, 0, rfl⟩
  case round =>
    obtain ⟨k, hk, rfl, q, rfl⟩ := hrel
    by_cases hlt : k < n
    · rcases hr with h0 | ⟨b, off, rfl, hbl, hc⟩
      · omega
      rcases hr' with h0 | ⟨b', off', rfl, hbl', hc'⟩
      · omega
      have hck := hc k hlt
      have hck' := hc' k hlt
      obtain ⟨x, hx⟩ : ∃ x, x = l.getD k 0 := ⟨_, rfl⟩
      rw [← hx] at hck hck'
      clear hc hx hc'
      have hki : (k : Int) < (n : Int) := by omega
      go_wp2
      go_quiet (fail)
      go_wp2
      go_roundw
      case rel => exact ⟨k + 1, by omega, by go_num, _, rfl⟩
      case measure => simp [intOf]; omega
    · have hkn : k = n := by omega
      subst hkn
      clear hr hr'
      go_wp2
      go_ret
      exact ⟨rfl, q, rfl⟩

set_option maxRecDepth 100000 in
set_option maxHeartbeats 400000 in
theorem likeIntss (a : Option Addr) (n cap : Nat) (R : List (List Int)) (a' : Option Addr) (n' cap' : Nat) (R' : List (List Int)) (w : World) (h : Mat w a n R) (h' : Mat w a' n' R') (heq : R = R') :
    Calls Tryd.prog 23 #[.slice a n cap, .slice a' n' cap'] w fun e w' => e = .returned (.bool true) ∧ ∃ q, w' = w.drewN q := by
  subst heq
  have HM := Lib.hid h
  have HM' := Lib.hid h'
  obtain ⟨hl, hm, -⟩ := h
  obtain ⟨hl', -, -⟩ := h'
  obtain rfl : n = n' := by omega
  unfold maxLen at hm
  have HL := Lib.hid hl
  clear hl hl'
  go_enter Tryd.func23, Tryd.ntmps23
  go_wp2
  go_loopw [5] (fun i wr => ∃ k : Nat, k ≤ n ∧ i = .int .i64 k ∧ ∃ q, wr = w.drewN q) (fun i _ => n - (intOf i).toNat)
  case atStart => exact ⟨0, Nat.zero_le _, rfl, 0, rfl⟩
  case round =>
    obtain ⟨k, hk, rfl, q, rfl⟩ := hrel
    by_cases hlt : k < n
    · obtain ⟨b, off, ra, rc, L, l, rfl, hbl, hll, hc, hI⟩ := HM.out.at k hlt
      obtain ⟨b', off', ra', rc', L', l', rfl, hbl', hll', hc', hI'⟩ := HM'.out.at k hlt
      have HI := Lib.hid hI
      have HI' := Lib.hid hI'
      have HE := Lib.hid (hll.trans hll'.symm)
      clear hI hI' hll hll' HM HM'
      have hki : (k : Int) < (n : Int) := by omega
      go_wp2
      go_quiet ((go_at_call 54; exact q_more (likeInts _ _ _ l _ _ _ l' _ HI.out HI'.out HE.out)))
      go_wp2
      go_roundw
      case rel => exact ⟨k + 1, by omega, by go_num, _, rfl⟩
      case measure => simp [intOf]; omega
    · have hkn : k = n := by omega
      subst hkn
      go_wp2
      go_ret
      exact ⟨rfl, q, rfl⟩

/-- The same, said for the laws. -/
theorem likeM (a : Option Addr) (n cap : Nat) (R : List (List Int)) (a' : Option Addr) (n' cap' : Nat) (w : World) (h : Mat w a n R) (h' : Mat w a' n' R) :
    Calls Tryd.prog 23 #[.slice a n cap, .slice a' n' cap'] w fun e w' => e = .returned (.bool true) ∧ Below w.heap.size w w' := by
  refine (likeIntss _ _ _ _ _ _ _ _ _ h h' rfl).mono ?_
  rintro e w' ⟨rfl, q, rfl⟩
  exact ⟨rfl, b_draws _ _⟩
theorem likeV (a : Option Addr) (n cap : Nat) (l : List Int) (a' : Option Addr) (n' cap' : Nat) (w : World) (h : Ints .i64 w a n l) (h' : Ints .i64 w a' n' l) :
    Calls Tryd.prog 54 #[.slice a n cap, .slice a' n' cap'] w fun e w' => e = .returned (.bool true) ∧ Below w.heap.size w w' := by
  refine (likeInts _ _ _ _ _ _ _ _ _ h h' rfl).mono ?_
  rintro e w' ⟨rfl, q, rfl⟩
  exact ⟨rfl, b_draws _ _⟩
set_option maxRecDepth 100000 in
set_option maxHeartbeats 400000 in
theorem big (a : Option Addr) (n cap : Nat) (w : World) (h : n ≤ maxLen) :
    Calls Tryd.prog 16 #[.slice a n cap] w fun e w' => e = .returned (.bool (decide (4096 < n))) ∧ w = w' := by
  unfold maxLen at h
  go_enter Tryd.func16, Tryd.ntmps16
  go_wp2
  go_ret
  exact ⟨retB (decide_eq_decide.2 (by omega)), rfl⟩
end Go.Proofs.YtlcjmcoljclpgaaDoor.V
