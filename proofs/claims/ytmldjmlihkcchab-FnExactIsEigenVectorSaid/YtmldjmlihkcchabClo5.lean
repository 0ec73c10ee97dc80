/- StarMatrix and PlusMatrix in the model: every case. -/
import Derived.Test.YtmldjmlihkcchabClo4
namespace Go.Proofs.Ytmldjmlihkcchab.V
open Go.RowKit

set_option maxRecDepth 100000 in
set_option maxHeartbeats 400000 in
theorem sResult (a : Option Addr) (n cap : Nat) (R : List (List Int)) (b : Bool) (hb : M.isMat R = b) (w : World) (h : Mat w a n R) :
    Calls Try.prog 56 #[.slice a n cap] w fun e w' => e = .returned (if b then .tuple #[.slice a n cap, .int .i64 0] else .tuple #[.slice none 0 0, .int .i64 3]) ∧ ∃ q, w' = w.drewN q := by
  have HA := Lib.hid h
  have HB := Lib.hid hb
  clear h hb
  cases b with
  | true =>
    go_enter Try.func56, Try.ntmps56
    go_wp2_with (go_at_call 62; refine (sIsMatrix_b _ _ _ R _ true HB.out HA.out).mono ?_; rintro e w' ⟨rfl, q, rfl⟩)
    go_ret2
    exact ⟨rfl, _, rfl⟩
  | false =>
    go_enter Try.func56, Try.ntmps56
    go_wp2_with (go_at_call 62; refine (sIsMatrix_b _ _ _ R _ false HB.out HA.out).mono ?_; rintro e w' ⟨rfl, q, rfl⟩)
    go_ret2
    exact ⟨rfl, _, rfl⟩


end Go.Proofs.Ytmldjmlihkcchab.V
