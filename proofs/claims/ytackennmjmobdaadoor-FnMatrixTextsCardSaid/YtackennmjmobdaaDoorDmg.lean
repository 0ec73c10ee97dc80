/- A text that is damaged, and drawn texts: the contracts. -/
import Derived.Test.YtackennmjmobdaaDoorRows
import Derived.Test.YtackennmjmobdaaDoorMath1
import Derived.Test.YtackennmjmobdaaDoorRows0
import Derived.Test.YtackennmjmobdaaDoorVals0
import Derived.Test.YtackennmjmobdaaDoorDec
import Derived.Test.YtackennmjmobdaaDoorTxt
import Derived.Test.YtackennmjmobdaaDoorRead
import Derived.Test.YtackennmjmobdaaDoorDraw1
import Derived.Test.YtackennmjmobdaaDoorDraw2
import Derived.WalkKit
import Derived.ProofKit
import Derived.WalkSmall
import Derived.Deep.QuietTactic
import Derived.BigQuiet
import Derived.BigRegion
import Derived.Deep.Draws
import Derived.Deep.OwnRows
import Derived.Deep.RegionWith
import Derived.Lib.Hide
namespace Go.Proofs.YtackennmjmobdaaDoor.V
open Go.RowKit

/-- What a damaged text is. -/
def StrPost (m g : Nat) (w : World) (e : Ending) (w' : World) : Prop :=
  ∃ s : ByteArray, e = .returned (.string s) ∧ s.size ≤ m ∧ Src w' g ∧ Thr g w w'

theorem ex_size (t : ByteArray) (i j : Nat) : (t.extract i j).size ≤ min j t.size - i := by
  rw [ByteArray.size_extract]; omega
theorem cut_len (k : Nat) (t : ByteArray) : (t.extract 0 k).size ≤ t.size + 1 := by
  have := ex_size t 0 k
  omega
theorem cut2_len (k : Nat) (t : ByteArray) : (t.extract 0 k ++ t.extract (k + 1) t.size).size ≤ t.size + 1 := by
  have h1 := ex_size t 0 k
  have h2 := ex_size t (k + 1) t.size
  rw [ByteArray.size_append]
  omega
theorem cut3_len (k : Nat) (t x : ByteArray) (hx : x.size = 1) : (t.extract 0 k ++ x ++ t.extract k t.size).size ≤ t.size + 1 := by
  have h1 := ex_size t 0 k
  have h2 := ex_size t k t.size
  rw [ByteArray.size_append, ByteArray.size_append]
  omega
/-- The texts that may be put in. -/
def ins (c : Nat) : ByteArray := ⟨#[[48, 49, 32, 45, 46, 44, 10, 59].getD c 48]⟩
theorem ins_size (c : Nat) : (ins c).size = 1 := rfl
def insV : Array Value := #[.string ⟨#[48]⟩, .string ⟨#[49]⟩, .string ⟨#[32]⟩, .string ⟨#[45]⟩, .string ⟨#[46]⟩, .string ⟨#[44]⟩, .string ⟨#[10]⟩, .string ⟨#[59]⟩]
theorem ins_get (c : Nat) (hc : c < 8) : insV[c]? = some (.string (ins c)) := by
  match c, hc with
  | 0, _ => rfl
  | 1, _ => rfl
  | 2, _ => rfl
  | 3, _ => rfl
  | 4, _ => rfl
  | 5, _ => rfl
  | 6, _ => rfl
  | 7, _ => rfl
theorem ins_pick (c : Nat) (hc : c < 8) : [Value.string ⟨#[48]⟩, .string ⟨#[49]⟩, .string ⟨#[32]⟩, .string ⟨#[45]⟩, .string ⟨#[46]⟩, .string ⟨#[44]⟩, .string ⟨#[10]⟩, .string ⟨#[59]⟩][c] = .string (ins c) := by
  match c, hc with
  | 0, _ => rfl
  | 1, _ => rfl
  | 2, _ => rfl
  | 3, _ => rfl
  | 4, _ => rfl
  | 5, _ => rfl
  | 6, _ => rfl
  | 7, _ => rfl
theorem ins_cell (W : World) (T c : Nat) (hc : c < 8) : (W.alloc (.cells insV T)).cell? ⟨W.heap.size, c, none⟩ = some (.string (ins c)) := by
  have e : (W.alloc (.cells insV T)).heap[W.heap.size]? = some (.cells insV T (0, 0)) := by
    show (W.heap.push _)[W.heap.size]? = _
    simp
  simp only [World.cell?, e]
  simp [ins_get c hc]

theorem vtxt_len9 {t : ByteArray} {a : Int} (h : t = ⟨(vtxt a).toArray⟩) : t.size ≤ 900 := by
  subst h
  show (vtxt a).toArray.size ≤ 900
  rw [List.size_toArray, vtxt]
  split
  · rename_i hv
    obtain ⟨b1, b2⟩ := M.isVal_bound hv
    rw [txt]
    split
    · simp
    · rw [Go.Lib.itoa]
      have := M.dlen7 18
      split
      · have := this a.natAbs (by omega)
        simp
        omega
      · have := this a.toNat (by omega)
        omega
  · simp

set_option maxRecDepth 100000 in
set_option maxHeartbeats 1000000 in
set_option maxRecDepth 100000 in
theorem damage (g : Nat) (t : ByteArray) (w : World) (h : Src w g) (ht : t.size ≤ 100000) :
    Calls Tryd.prog 27 #[.pointer (some ⟨g, 0, none⟩), .string t] w (StrPost (t.size + 1) g w) := by
  have HW := Lib.hid h
  clear h
  go_enter Tryd.func27, Tryd.ntmps27
  go_wp2_with fail
  refine (next _ _ _ (wf_small _ (by omega) (by omega)) HW.out).mono ?_
  rintro e w1 ⟨k, rfl, hk1, hk2, hs, ht1⟩
  obtain ⟨k, rfl⟩ := Int.eq_ofNat_of_zero_le hk1
  have hk : k ≤ t.size := by omega
  have HT := Lib.hid ht1
  have HS := Lib.hid hs
  clear ht1 hs hk2
  go_wp2_with fail
  refine (next _ _ _ (by decide) HS.out).mono ?_
  rintro e w2 ⟨x, rfl, hx1, hx2, hs, ht2⟩
  have HT2 := Lib.hid (HT.out.trans ht2)
  have HS2 := Lib.hid hs
  clear ht2 hs hx2
  by_cases h0 : x = 0
  · subst h0
    go_wp2
    go_ret
    exact ⟨_, rfl, cut_len k t, HS2.out, HT2.out⟩
  · have e0 : (x == 0) = false := by simp; omega
    by_cases h1 : x = 1
    · subst h1
      go_wp2_with fail
      have l2 := HS2.out.lt
      go_region_with (first | (go_at_call 26; refine (next _ _ _ (by decide) (by first | exact HS2.out | exact HS2.out.alloc _)).mono ?_; rintro e w3 ⟨c, rfl, hc1, hc2, hs3, ht3⟩; obtain ⟨c, rfl⟩ := Int.eq_ofNat_of_zero_le hc1; have hc8 : c < 8 := (by omega); have hin : (ins c).size = 1 := rfl; have hpk := ins_pick c hc8; have hci : (c : Int) < 8 := (by omega); (try have hcell := (ht3.cell (p := ⟨_, c, none⟩) (by simp) (by show w2.heap.size ≠ g; omega)).trans (ins_cell _ _ c hc8)); (try have hcell := ins_cell w3 9 c hc8); have HT3 := Lib.hid ht3; have HS3 := Lib.hid hs3; clear hs3 ht3 hc2))
      all_goals
        go_wp2
        go_ret
      · exact ⟨_, rfl, cut3_len k t _ rfl, HS3.out, (HT2.out.drew.alloc (Nat.le_of_lt l2) _).trans HT3.out⟩
      · exact ⟨_, rfl, cut3_len k t _ rfl, HS3.out.alloc _, (HT2.out.drew.trans HT3.out).alloc (Nat.le_of_lt HS3.out.lt) _⟩
    · have e1 : (x == 1) = false := by simp; omega
      by_cases h2 : x = 2
      · subst h2
        by_cases hlt : k < t.size
        · have hki : (k : Int) < (t.size : Int) := by omega
          go_wp2_with fail
          go_region
          go_wp2
          go_ret
          exact ⟨_, rfl, cut2_len k t, HS2.out, HT2.out.drew⟩
        · have hki : ¬ (k : Int) < (t.size : Int) := by omega
          go_wp2_with fail
          go_ret
          exact ⟨_, rfl, by omega, HS2.out, HT2.out⟩
      · have e2 : (x == 2) = false := by simp; omega
        go_wp2_with fail
        go_ret
        exact ⟨_, rfl, by omega, HS2.out, HT2.out⟩

def DrawnV (w : World) (e : Ending) (w' : World) : Prop := ∃ x : Int, e = .returned (.int .i64 x) ∧ (Lit.int .i64 x).wf = true ∧ Below w.heap.size w w'
def DrawnS (w : World) (e : Ending) (w' : World) : Prop := ∃ s : ByteArray, e = .returned (.string s) ∧ s.size ≤ 200000 ∧ Below w.heap.size w w'


end Go.Proofs.YtackennmjmobdaaDoor.V
