/- Texts laid together: Rci0. -/
import Derived.Test.YtjbffpmelglegaaQa47
set_option linter.unusedSimpArgs false
set_option linter.unusedVariables false
set_option linter.unusedSectionVars false
namespace Go.Proofs.Ytjbffpmelglegaa
namespace V
set_option maxRecDepth 100000
open Go.RowKit
theorem zst_of (N : Nat) : (fun e => ((List.range N).map fun _ => (0 : Int)).getD e 0) = M.zst := by
  funext e
  show _ = (0 : Int)
  rw [List.getD_eq_getElem?_getD, List.getElem?_map]
  cases (List.range N)[e]? <;> rfl
theorem sTimesZ (N : Nat) (a : Option Addr) (n cap : Nat) (l : List M.Pc) (nn : Nat) (sa : Option Addr) (sc : Nat) (w : World) (h : Pls w a n l) (hg : M.isGr (N : Int) l = true) (hnp : M.noPos (M.wtF M.fOne l) N = true) (hnn : nn ≤ 50)
    (hS : Ints .i64 w sa N ((List.range N).map fun _ => (0 : Int))) :
    Calls Try.prog 95 #[.agg #[.int .i64 N, .slice a n cap], .int .i64 nn, .slice sa N sc] w (MPost nn (M.timM l (M.ordL (M.wtF M.fOne l) N N) M.zst N nn) w) := by
  have := sTimes13 N a n cap l nn sa sc ((List.range N).map fun _ => (0 : Int)) w h hg hnp hnn hS (fun e => by
    have := congrFun (zst_of N) e
    rw [this]
    exact ⟨Int.le_refl _, by show (0 : Int) ≤ 1000000; decide⟩)
  rw [zst_of] at this
  exact this
end V
end Go.Proofs.Ytjbffpmelglegaa
