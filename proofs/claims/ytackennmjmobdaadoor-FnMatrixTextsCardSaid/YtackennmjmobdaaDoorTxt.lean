/- Texts of values: the contracts of both sides. -/
import Derived.Test.YtackennmjmobdaaDoorRows
import Derived.Test.YtackennmjmobdaaDoorMath1
import Derived.Test.YtackennmjmobdaaDoorVals0
import Derived.Test.YtackennmjmobdaaDoorDec
import Derived.Test.YtackennmjmobdaaDoorFmt
import Derived.WalkKit
import Derived.ProofKit
import Derived.WalkSmall
import Derived.Deep.QuietTactic
import Derived.BigQuiet
import Derived.BigRegion
import Derived.Deep.Draws
import Derived.Lib.Hide
namespace Go.Proofs.YtackennmjmobdaaDoor.V
open Go.RowKit

/-- The text of a value, and of any integer. -/
def txt (a : Int) : List UInt8 := if a = -1000000000000000 then [46] else Go.Lib.itoa a
def vtxt (a : Int) : List UInt8 := if M.isVal a then txt a else []

/-- What a text is. -/
def TxtPost (l : List UInt8) (w : World) (e : Ending) (w' : World) : Prop :=
  ∃ s : ByteArray, e = .returned (.string s) ∧ s = ⟨l.toArray⟩ ∧ Below w.heap.size w w'

theorem below_grow (w : World) (k : Nat) (os : Array Obj) : Below w.heap.size w (Go.Sort.grow (w.drewN k) os) :=
  ⟨rfl, rfl, rfl, by simp [Go.Sort.grow, World.drewN], fun i hi => by
    show (w.heap ++ os)[i]? = w.heap[i]?
    rw [Array.getElem?_append_left hi]⟩

set_option maxRecDepth 100000 in
set_option maxHeartbeats 1000000 in
set_option maxRecDepth 100000 in
theorem text (a : Int) (w : World) (ha : M.isVal a = true) (htab : Lib.TabIs Tryd.prog w "internal/strconv.uint64pow10" .u64 Lib.pow10Tab) :
    Calls Tryd.prog 42 #[.int .i64 a] w (TxtPost (txt a) w) := by
  obtain ⟨b1, b2⟩ := M.isVal_bound ha
  have HT := Lib.hid htab
  clear htab ha
  by_cases h : a = -1000000000000000
  · subst h
    go_enter Tryd.func42, Tryd.ntmps42
    go_wp2
    go_ret
    exact ⟨_, rfl, rfl, Below.refl _ _⟩
  · have h' : (a == -1000000000000000) = false := by simpa using h
    have HH := Lib.hid h
    clear h
    go_enter Tryd.func42, Tryd.ntmps42
    go_wp2_with fail
    refine (Go.Proofs.Tryd.strconv_FormatInt_10 a (by omega) (by omega) _ HT.out).mono ?_
    rintro e w1 ⟨rfl, k, os, rfl⟩
    go_wp2
    go_ret
    exact ⟨_, rfl, by rw [txt, if_neg HH.out], below_grow _ _ _⟩

set_option maxRecDepth 100000 in
set_option maxHeartbeats 1000000 in
set_option maxRecDepth 100000 in
theorem valueText (a : Int) (w : World) (htab : Lib.TabIs Tryd.prog w "internal/strconv.uint64pow10" .u64 Lib.pow10Tab) :
    Calls Tryd.prog 22 #[.int .i64 a] w (TxtPost (vtxt a) w) := by
  have HT := Lib.hid htab
  clear htab
  by_cases ha : M.isVal a = true
  · have HA := Lib.hid ha
    go_enter Tryd.func22, Tryd.ntmps22
    go_wp2_with (go_at_call 41; refine (isValue _ _).mono ?_; rintro e w' ⟨rfl, rfl⟩)
    refine (text _ _ HA.out HT.out).mono ?_
    rintro e w1 ⟨s, rfl, hs, hb⟩
    have HS := Lib.hid hs
    clear hs
    go_wp2
    go_ret
    exact ⟨_, rfl, by rw [HS.out, vtxt, if_pos HA.out], hb⟩
  · simp only [Bool.not_eq_true] at ha
    have HA := Lib.hid ha
    go_enter Tryd.func22, Tryd.ntmps22
    go_wp2_with (go_at_call 41; refine (isValue _ _).mono ?_; rintro e w' ⟨rfl, rfl⟩)
    go_ret
    exact ⟨_, rfl, by rw [vtxt, if_neg (by rw [HA.out]; exact Bool.false_ne_true)], Below.refl _ _⟩

set_option maxRecDepth 100000 in
set_option maxHeartbeats 1000000 in
set_option maxRecDepth 100000 in
theorem sNumber (a : Int) (w : World) (h1 : -1000000000000000000 ≤ a) (h2 : a ≤ 1000000000000000000) :
    Calls Tryd.prog 67 #[.int .i64 a] w (TxtPost (Go.Lib.itoa a) w) := by
  by_cases hneg : a < 0
  · have HI : Hid (Go.Lib.itoa a = 45 :: Go.Lib.decDigits a.natAbs) := by show _ = _; rw [Go.Lib.itoa, if_pos hneg]
    have hn : ∀ w, Calls Tryd.prog 79 #[.int .i64 (-a)] w (DecPost a.natAbs w) := fun w => by
      have := sDec a.natAbs w (by omega)
      rwa [show ((a.natAbs : Nat) : Int) = -a from by omega] at this
    have HN := Lib.hid hn
    clear hn
    go_enter Tryd.func67, Tryd.ntmps67
    go_wp2_with fail
    refine (HN.out _).mono ?_
    rintro e w1 ⟨s, rfl, hs, hsz, hb⟩
    have HS := Lib.hid hs
    clear hs
    go_wp2
    go_ret
    exact ⟨_, rfl, by rw [HI.out]; exact toArray_eq (by simp [ByteArray.data_append, HS.out]), hb⟩
  · have HI : Hid (Go.Lib.itoa a = Go.Lib.decDigits a.toNat) := by show _ = _; rw [Go.Lib.itoa, if_neg hneg]
    have hn : ∀ w, Calls Tryd.prog 79 #[.int .i64 a] w (DecPost a.toNat w) := fun w => by
      have := sDec a.toNat w (by omega)
      rwa [show ((a.toNat : Nat) : Int) = a from by omega] at this
    have HN := Lib.hid hn
    clear hn
    go_enter Tryd.func67, Tryd.ntmps67
    go_wp2_with fail
    refine (HN.out _).mono ?_
    rintro e w1 ⟨s, rfl, hs, hsz, hb⟩
    have HS := Lib.hid hs
    clear hs
    go_wp2
    go_ret
    exact ⟨_, rfl, by rw [HI.out]; exact toArray_eq HS.out, hb⟩

set_option maxRecDepth 100000 in
set_option maxHeartbeats 1000000 in
set_option maxRecDepth 100000 in
theorem sText (a : Int) (w : World) (ha : M.isVal a = true) :
    Calls Tryd.prog 50 #[.int .i64 a] w (TxtPost (txt a) w) := by
  obtain ⟨b1, b2⟩ := M.isVal_bound ha
  clear ha
  by_cases h : a = -1000000000000000
  · subst h
    go_enter Tryd.func50, Tryd.ntmps50
    go_wp2
    go_ret
    exact ⟨_, rfl, rfl, Below.refl _ _⟩
  · have h' : (a == -1000000000000000) = false := by simpa using h
    have HH := Lib.hid h
    clear h
    go_enter Tryd.func50, Tryd.ntmps50
    go_wp2_with fail
    refine (sNumber a _ (by omega) (by omega)).mono ?_
    rintro e w1 ⟨s, rfl, hs, hb⟩
    have HS := Lib.hid hs
    clear hs
    go_wp2
    go_ret
    exact ⟨_, rfl, by rw [HS.out, txt, if_neg HH.out], hb⟩

end Go.Proofs.YtackennmjmobdaaDoor.V
