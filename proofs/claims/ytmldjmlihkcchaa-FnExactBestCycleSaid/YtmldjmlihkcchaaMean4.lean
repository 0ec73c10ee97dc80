/- The two other ways to a mean: whether they lead to one. -/
import Derived.Test.YtmldjmlihkcchaaEnd2
import Derived.Test.YtmldjmlihkcchaaMean3
namespace Go.Proofs.Ytmldjmlihkcchaa.V
open Go.RowKit
theorem sm_of {w : World} {a : Option Addr} {n : Nat} {R : List (List Int)} (h : Mat w a n R) (hs : M.sqB R = true) : ∀ i j, i < n → j < n → M.Sm 1000000 (M.ent R i j) := by
  exact (sq_parts h hs).2.2.2

theorem assert_pow0 (v : Value) (W : World) : (Instr.typeAssert (.iface 63 v) 94 71 true).run Try.prog W = .ok (.tuple #[.slice none 0 0, .bool false]) W := by kernel_rfl
theorem assert_pow2 (v : Value) (W : World) : (Instr.typeAssert (.iface 63 v) 94 69 true).run Try.prog W = .ok (.tuple #[.agg #[], .bool false]) W := by kernel_rfl
attribute [local go_sem] assert_pow2
attribute [local go_sem] assert_pow0
theorem assert_pow1 (v : Value) (W : World) : (Instr.typeAssert (.iface 63 v) 94 63 true).run Try.prog W = .ok (.tuple #[v, .bool true]) W := by kernel_rfl
attribute [local go_sem] assert_pow1
set_option maxRecDepth 100000 in
set_option maxHeartbeats 1000000 in
theorem leads_pow (a : Option Addr) (n cap : Nat) (R : List (List Int)) (b : Bool) (hb : M.hasCyc (M.ent R) n = b) (w : World) (h : Sq w a n R) (hA : ∀ i j, i < n → j < n → M.Sm 1000000 (M.ent R i j)) :
    Calls Try.prog 84 #[.slice a n cap, .iface 63 (.agg #[])] w fun e w' => e = .returned (.bool b) ∧ Below w.heap.size w w' := by
  have HS := Lib.hid h
  have HA := Lib.hid hA
  have HB := Lib.hid hb
  clear h hb hA
  go_enter Try.func84, Try.ntmps84
  go_wp2_with fail
  refine (hasCycle _ _ _ R _ HS.out HA.out).mono ?_
  rintro e w1 ⟨rfl, hb⟩
  rw [HB.out]
  have HB1 := Lib.hid hb
  clear hb
  go_wp2
  go_ret
  exact ⟨rfl, HB1.out⟩

theorem assert_tab0 (v : Value) (W : World) : (Instr.typeAssert (.iface 69 v) 94 71 true).run Try.prog W = .ok (.tuple #[.slice none 0 0, .bool false]) W := by kernel_rfl
theorem assert_tab2 (v : Value) (W : World) : (Instr.typeAssert (.iface 69 v) 94 63 true).run Try.prog W = .ok (.tuple #[.agg #[], .bool false]) W := by kernel_rfl
attribute [local go_sem] assert_tab2
attribute [local go_sem] assert_tab0
theorem assert_tab1 (v : Value) (W : World) : (Instr.typeAssert (.iface 69 v) 94 69 true).run Try.prog W = .ok (.tuple #[v, .bool true]) W := by kernel_rfl
attribute [local go_sem] assert_tab1
set_option maxRecDepth 100000 in
set_option maxHeartbeats 1000000 in
theorem leads_tab (a : Option Addr) (n cap : Nat) (R : List (List Int)) (b : Bool) (hb : M.hasCyc (M.ent R) n = b) (w : World) (h : Sq w a n R) (hA : ∀ i j, i < n → j < n → M.Sm 1000000 (M.ent R i j)) :
    Calls Try.prog 84 #[.slice a n cap, .iface 69 (.agg #[])] w fun e w' => e = .returned (.bool b) ∧ Below w.heap.size w w' := by
  have HS := Lib.hid h
  have HA := Lib.hid hA
  have HB := Lib.hid hb
  clear h hb hA
  go_enter Try.func84, Try.ntmps84
  go_wp2_with fail
  refine (hasCycle _ _ _ R _ HS.out HA.out).mono ?_
  rintro e w1 ⟨rfl, hb⟩
  rw [HB.out]
  have HB1 := Lib.hid hb
  clear hb
  go_wp2
  go_ret
  exact ⟨rfl, HB1.out⟩

end Go.Proofs.Ytmldjmlihkcchaa.V
