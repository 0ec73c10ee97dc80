/-
  No cell of these rows narrows 'for every input' (looked for: loops, veiled, ifaces, maps, wideKeys, modest, calm, conditions, laid).
  DERIVED. THE GIVEN ROWS OF THIS SEAT. 12 by the template 'for every input the law returns true; each argument reads behind the call as it read before'; 0 by the template 'total and deterministic' (their statements: YtkilnneepnbckaaTotals.lean).
  GIVEN WITH THE SEED: the statements are not yours to turn. If you find one false, say at which input.
  Laid BY PROGRAM, IN A SANDBOX (cutbox-rows.mjs): the forced cells as the released guide's own fill.sh prints them over the translation 5c84712bc2179936… (all of the seat's roots in one cut). By AI agents, Wed Nov 11 2026. No macro, syntax, notation, axiom, sorry.
-/
import Derived.Test.YtkilnneepnbckaaChecked
import GoSem.Claim
import GoSem.ClaimJoined
import GoSem.ClaimMapViews
import Derived.JoinedTies
import Derived.KernelRfl
namespace Go.Proofs.Ytkilnneepnbckaa
/- THE CELL 'sum', in the pinned program and in every row, IS THE sha256 OF THE DUMP (.gsa) THAT YtkilnneepnbckaaProg.lean LOADS. Nothing in Lean hashes anything: it is a label: what it is worth is what the hold of that sum in a sandbox is worth. -/
noncomputable def Try.pinned : Pinned := { name := "ytkilnneepnbckaa", sum := "5c84712bc2179936734a12bea11d95201806421c13fdf5ced20b68013d58909d", checked := Try.checked }
namespace Rows
def none {H : Type} : Left H := { results := [], args := [] }

/-- 'laws.FnStars': WHATEVER THE INPUT: true; the input reads as it did. -/
def fnStarsSpec : ChangeSpec := { name := "fnStars", fn := fun _ => fun
  | [d] => { results := [.lit (.bool true)], args := [d] }
  | _ => none }
def fnStarsRow : OpenClaim := { program := "ytkilnneepnbckaa", sum := "5c84712bc2179936734a12bea11d95201806421c13fdf5ced20b68013d58909d", func := "loop.example/g00941/laws.FnStars", spec := "fnStars", unfollowed := true, recurses := true, apart := false }
def FnStarsSaid : Prop := fnStarsRow.holds Try.pinned (OpenSpec.ofChange fnStarsSpec)

/-- ITS FALSE NEIGHBOUR: 'it returns false'. Refute it at one input. -/
def fnStarsWrong : ChangeSpec := { name := "fnStars", fn := fun _ => fun
  | [d] => { results := [.lit (.bool false)], args := [d] }
  | _ => none }
def FnStarsWrongFalsely : Prop := fnStarsRow.holds Try.pinned (OpenSpec.ofChange fnStarsWrong)

/-- 'laws.FnPaths': WHATEVER THE INPUT: true; the input reads as it did. -/
def fnPathsSpec : ChangeSpec := { name := "fnPaths", fn := fun _ => fun
  | [d] => { results := [.lit (.bool true)], args := [d] }
  | _ => none }
def fnPathsRow : OpenClaim := { program := "ytkilnneepnbckaa", sum := "5c84712bc2179936734a12bea11d95201806421c13fdf5ced20b68013d58909d", func := "loop.example/g00941/laws.FnPaths", spec := "fnPaths", unfollowed := true, recurses := true, apart := false }
def FnPathsSaid : Prop := fnPathsRow.holds Try.pinned (OpenSpec.ofChange fnPathsSpec)

/-- ITS FALSE NEIGHBOUR: 'it returns false'. Refute it at one input. -/
def fnPathsWrong : ChangeSpec := { name := "fnPaths", fn := fun _ => fun
  | [d] => { results := [.lit (.bool false)], args := [d] }
  | _ => none }
def FnPathsWrongFalsely : Prop := fnPathsRow.holds Try.pinned (OpenSpec.ofChange fnPathsWrong)

/-- 'laws.FnPositiveCycles': WHATEVER THE INPUT: true; the input reads as it did. -/
def fnPositiveCyclesSpec : ChangeSpec := { name := "fnPositiveCycles", fn := fun _ => fun
  | [d] => { results := [.lit (.bool true)], args := [d] }
  | _ => none }
def fnPositiveCyclesRow : OpenClaim := { program := "ytkilnneepnbckaa", sum := "5c84712bc2179936734a12bea11d95201806421c13fdf5ced20b68013d58909d", func := "loop.example/g00941/laws.FnPositiveCycles", spec := "fnPositiveCycles", unfollowed := true, recurses := true, apart := false }
def FnPositiveCyclesSaid : Prop := fnPositiveCyclesRow.holds Try.pinned (OpenSpec.ofChange fnPositiveCyclesSpec)

/-- ITS FALSE NEIGHBOUR: 'it returns false'. Refute it at one input. -/
def fnPositiveCyclesWrong : ChangeSpec := { name := "fnPositiveCycles", fn := fun _ => fun
  | [d] => { results := [.lit (.bool false)], args := [d] }
  | _ => none }
def FnPositiveCyclesWrongFalsely : Prop := fnPositiveCyclesRow.holds Try.pinned (OpenSpec.ofChange fnPositiveCyclesWrong)

/-- 'laws.FnFixedPoints': WHATEVER THE INPUT: true; the input reads as it did. -/
def fnFixedPointsSpec : ChangeSpec := { name := "fnFixedPoints", fn := fun _ => fun
  | [d] => { results := [.lit (.bool true)], args := [d] }
  | _ => none }
def fnFixedPointsRow : OpenClaim := { program := "ytkilnneepnbckaa", sum := "5c84712bc2179936734a12bea11d95201806421c13fdf5ced20b68013d58909d", func := "loop.example/g00941/laws.FnFixedPoints", spec := "fnFixedPoints", unfollowed := true, recurses := true, apart := false }
def FnFixedPointsSaid : Prop := fnFixedPointsRow.holds Try.pinned (OpenSpec.ofChange fnFixedPointsSpec)

/-- ITS FALSE NEIGHBOUR: 'it returns false'. Refute it at one input. -/
def fnFixedPointsWrong : ChangeSpec := { name := "fnFixedPoints", fn := fun _ => fun
  | [d] => { results := [.lit (.bool false)], args := [d] }
  | _ => none }
def FnFixedPointsWrongFalsely : Prop := fnFixedPointsRow.holds Try.pinned (OpenSpec.ofChange fnFixedPointsWrong)

/-- 'laws.FnExactPathWeight': WHATEVER THE INPUT: true; the input reads as it did. -/
def fnExactPathWeightSpec : ChangeSpec := { name := "fnExactPathWeight", fn := fun _ => fun
  | [d1, d2] => { results := [.lit (.bool true)], args := [d1, d2] }
  | _ => none }
def fnExactPathWeightRow : OpenClaim := { program := "ytkilnneepnbckaa", sum := "5c84712bc2179936734a12bea11d95201806421c13fdf5ced20b68013d58909d", func := "loop.example/g00941/laws.FnExactPathWeight", spec := "fnExactPathWeight", apart := false }
def FnExactPathWeightSaid : Prop := fnExactPathWeightRow.holds Try.pinned (OpenSpec.ofChange fnExactPathWeightSpec)

/-- ITS FALSE NEIGHBOUR: 'it returns false'. Refute it at one input. -/
def fnExactPathWeightWrong : ChangeSpec := { name := "fnExactPathWeight", fn := fun _ => fun
  | [d1, d2] => { results := [.lit (.bool false)], args := [d1, d2] }
  | _ => none }
def FnExactPathWeightWrongFalsely : Prop := fnExactPathWeightRow.holds Try.pinned (OpenSpec.ofChange fnExactPathWeightWrong)

/-- 'laws.FnExactIsCycle': WHATEVER THE INPUT: true; the input reads as it did. -/
def fnExactIsCycleSpec : ChangeSpec := { name := "fnExactIsCycle", fn := fun _ => fun
  | [d1, d2] => { results := [.lit (.bool true)], args := [d1, d2] }
  | _ => none }
def fnExactIsCycleRow : OpenClaim := { program := "ytkilnneepnbckaa", sum := "5c84712bc2179936734a12bea11d95201806421c13fdf5ced20b68013d58909d", func := "loop.example/g00941/laws.FnExactIsCycle", spec := "fnExactIsCycle", apart := false }
def FnExactIsCycleSaid : Prop := fnExactIsCycleRow.holds Try.pinned (OpenSpec.ofChange fnExactIsCycleSpec)

/-- ITS FALSE NEIGHBOUR: 'it returns false'. Refute it at one input. -/
def fnExactIsCycleWrong : ChangeSpec := { name := "fnExactIsCycle", fn := fun _ => fun
  | [d1, d2] => { results := [.lit (.bool false)], args := [d1, d2] }
  | _ => none }
def FnExactIsCycleWrongFalsely : Prop := fnExactIsCycleRow.holds Try.pinned (OpenSpec.ofChange fnExactIsCycleWrong)

/-- 'laws.FnExactCycleWeight': WHATEVER THE INPUT: true; the input reads as it did. -/
def fnExactCycleWeightSpec : ChangeSpec := { name := "fnExactCycleWeight", fn := fun _ => fun
  | [d1, d2] => { results := [.lit (.bool true)], args := [d1, d2] }
  | _ => none }
def fnExactCycleWeightRow : OpenClaim := { program := "ytkilnneepnbckaa", sum := "5c84712bc2179936734a12bea11d95201806421c13fdf5ced20b68013d58909d", func := "loop.example/g00941/laws.FnExactCycleWeight", spec := "fnExactCycleWeight", apart := false }
def FnExactCycleWeightSaid : Prop := fnExactCycleWeightRow.holds Try.pinned (OpenSpec.ofChange fnExactCycleWeightSpec)

/-- ITS FALSE NEIGHBOUR: 'it returns false'. Refute it at one input. -/
def fnExactCycleWeightWrong : ChangeSpec := { name := "fnExactCycleWeight", fn := fun _ => fun
  | [d1, d2] => { results := [.lit (.bool false)], args := [d1, d2] }
  | _ => none }
def FnExactCycleWeightWrongFalsely : Prop := fnExactCycleWeightRow.holds Try.pinned (OpenSpec.ofChange fnExactCycleWeightWrong)

/-- 'laws.FnExactPositiveCycle': WHATEVER THE INPUT: true; the input reads as it did. -/
def fnExactPositiveCycleSpec : ChangeSpec := { name := "fnExactPositiveCycle", fn := fun _ => fun
  | [d] => { results := [.lit (.bool true)], args := [d] }
  | _ => none }
def fnExactPositiveCycleRow : OpenClaim := { program := "ytkilnneepnbckaa", sum := "5c84712bc2179936734a12bea11d95201806421c13fdf5ced20b68013d58909d", func := "loop.example/g00941/laws.FnExactPositiveCycle", spec := "fnExactPositiveCycle", unfollowed := true, recurses := true, apart := false }
def FnExactPositiveCycleSaid : Prop := fnExactPositiveCycleRow.holds Try.pinned (OpenSpec.ofChange fnExactPositiveCycleSpec)

/-- ITS FALSE NEIGHBOUR: 'it returns false'. Refute it at one input. -/
def fnExactPositiveCycleWrong : ChangeSpec := { name := "fnExactPositiveCycle", fn := fun _ => fun
  | [d] => { results := [.lit (.bool false)], args := [d] }
  | _ => none }
def FnExactPositiveCycleWrongFalsely : Prop := fnExactPositiveCycleRow.holds Try.pinned (OpenSpec.ofChange fnExactPositiveCycleWrong)

/-- 'laws.FnExactStarMatrix': WHATEVER THE INPUT: true; the input reads as it did. -/
def fnExactStarMatrixSpec : ChangeSpec := { name := "fnExactStarMatrix", fn := fun _ => fun
  | [d] => { results := [.lit (.bool true)], args := [d] }
  | _ => none }
def fnExactStarMatrixRow : OpenClaim := { program := "ytkilnneepnbckaa", sum := "5c84712bc2179936734a12bea11d95201806421c13fdf5ced20b68013d58909d", func := "loop.example/g00941/laws.FnExactStarMatrix", spec := "fnExactStarMatrix", unfollowed := true, recurses := true, apart := false }
def FnExactStarMatrixSaid : Prop := fnExactStarMatrixRow.holds Try.pinned (OpenSpec.ofChange fnExactStarMatrixSpec)

/-- ITS FALSE NEIGHBOUR: 'it returns false'. Refute it at one input. -/
def fnExactStarMatrixWrong : ChangeSpec := { name := "fnExactStarMatrix", fn := fun _ => fun
  | [d] => { results := [.lit (.bool false)], args := [d] }
  | _ => none }
def FnExactStarMatrixWrongFalsely : Prop := fnExactStarMatrixRow.holds Try.pinned (OpenSpec.ofChange fnExactStarMatrixWrong)

/-- 'laws.FnExactPlusMatrix': WHATEVER THE INPUT: true; the input reads as it did. -/
def fnExactPlusMatrixSpec : ChangeSpec := { name := "fnExactPlusMatrix", fn := fun _ => fun
  | [d] => { results := [.lit (.bool true)], args := [d] }
  | _ => none }
def fnExactPlusMatrixRow : OpenClaim := { program := "ytkilnneepnbckaa", sum := "5c84712bc2179936734a12bea11d95201806421c13fdf5ced20b68013d58909d", func := "loop.example/g00941/laws.FnExactPlusMatrix", spec := "fnExactPlusMatrix", unfollowed := true, recurses := true, apart := false }
def FnExactPlusMatrixSaid : Prop := fnExactPlusMatrixRow.holds Try.pinned (OpenSpec.ofChange fnExactPlusMatrixSpec)

/-- ITS FALSE NEIGHBOUR: 'it returns false'. Refute it at one input. -/
def fnExactPlusMatrixWrong : ChangeSpec := { name := "fnExactPlusMatrix", fn := fun _ => fun
  | [d] => { results := [.lit (.bool false)], args := [d] }
  | _ => none }
def FnExactPlusMatrixWrongFalsely : Prop := fnExactPlusMatrixRow.holds Try.pinned (OpenSpec.ofChange fnExactPlusMatrixWrong)

/-- 'laws.FnExactHeaviestPath': WHATEVER THE INPUT: true; the input reads as it did. -/
def fnExactHeaviestPathSpec : ChangeSpec := { name := "fnExactHeaviestPath", fn := fun _ => fun
  | [d1, d2, d3] => { results := [.lit (.bool true)], args := [d1, d2, d3] }
  | _ => none }
def fnExactHeaviestPathRow : OpenClaim := { program := "ytkilnneepnbckaa", sum := "5c84712bc2179936734a12bea11d95201806421c13fdf5ced20b68013d58909d", func := "loop.example/g00941/laws.FnExactHeaviestPath", spec := "fnExactHeaviestPath", unfollowed := true, recurses := true, apart := false }
def FnExactHeaviestPathSaid : Prop := fnExactHeaviestPathRow.holds Try.pinned (OpenSpec.ofChange fnExactHeaviestPathSpec)

/-- ITS FALSE NEIGHBOUR: 'it returns false'. Refute it at one input. -/
def fnExactHeaviestPathWrong : ChangeSpec := { name := "fnExactHeaviestPath", fn := fun _ => fun
  | [d1, d2, d3] => { results := [.lit (.bool false)], args := [d1, d2, d3] }
  | _ => none }
def FnExactHeaviestPathWrongFalsely : Prop := fnExactHeaviestPathRow.holds Try.pinned (OpenSpec.ofChange fnExactHeaviestPathWrong)

/-- 'laws.FnExactFixedPoint': WHATEVER THE INPUT: true; the input reads as it did. -/
def fnExactFixedPointSpec : ChangeSpec := { name := "fnExactFixedPoint", fn := fun _ => fun
  | [d1, d2] => { results := [.lit (.bool true)], args := [d1, d2] }
  | _ => none }
def fnExactFixedPointRow : OpenClaim := { program := "ytkilnneepnbckaa", sum := "5c84712bc2179936734a12bea11d95201806421c13fdf5ced20b68013d58909d", func := "loop.example/g00941/laws.FnExactFixedPoint", spec := "fnExactFixedPoint", unfollowed := true, recurses := true, apart := false }
def FnExactFixedPointSaid : Prop := fnExactFixedPointRow.holds Try.pinned (OpenSpec.ofChange fnExactFixedPointSpec)

/-- ITS FALSE NEIGHBOUR: 'it returns false'. Refute it at one input. -/
def fnExactFixedPointWrong : ChangeSpec := { name := "fnExactFixedPoint", fn := fun _ => fun
  | [d1, d2] => { results := [.lit (.bool false)], args := [d1, d2] }
  | _ => none }
def FnExactFixedPointWrongFalsely : Prop := fnExactFixedPointRow.holds Try.pinned (OpenSpec.ofChange fnExactFixedPointWrong)

/- THE SECOND FORM. 'bulk': how many values and letters a reading holds, each counted each time it is reached (what is shared counts as often as it is met; a slice's spare places count too). A statement '..UptoSaid' is the law's where the arguments, and the package variables that the reading takes, are together of bulk at most 1048576: NARROWER than '..Said'. Prove '..Said' where nothing that the law and all that it calls make is longer than what came in: it says more and counts as full. Else prove '..UptoSaid'. A law counts once. -/
mutual
def uptoBulk {H : Type} : DataW H → Nat
  | .lit (.string bytes) => bytes.length + 1
  | .lit _ => 1
  | .nil => 1
  | .ptr d => uptoBulk d + 1
  | .slice elems spare => uptoBulkAll elems + uptoBulkAll spare + 1
  | .agg parts => uptoBulkAll parts + 1
  | .iface _ d => uptoBulk d + 1
  | .map entries => uptoBulkEntries entries + 1
  | .held _ => 1
def uptoBulkAll {H : Type} : List (DataW H) → Nat
  | [] => 0
  | d :: r => uptoBulk d + uptoBulkAll r
def uptoBulkEntries {H : Type} : List (Lit × DataW H) → Nat
  | [] => 0
  | x :: r => uptoBulkEntry x + uptoBulkEntries r
def uptoBulkEntry {H : Type} : Lit × DataW H → Nat
  | (.string bytes, d) => bytes.length + uptoBulk d + 1
  | (_, d) => uptoBulk d + 1
 end
def uptoSmall : (H : Type) → List (DataW H) → Bool := fun _ ds => decide (uptoBulkAll ds ≤ 1048576)
def OpenSpec.upto (s : _root_.Go.ChangeSpec) : _root_.Go.OpenSpec := { _root_.Go.OpenSpec.ofChange s with cond := some uptoSmall }

/-- 'laws.FnStars', WHERE WHAT IT READS IS OF BULK AT MOST 1048576: true; the input reads as it did. -/
def fnStarsUptoRow : OpenClaim := { program := "ytkilnneepnbckaa", sum := "5c84712bc2179936734a12bea11d95201806421c13fdf5ced20b68013d58909d", func := "loop.example/g00941/laws.FnStars", spec := "fnStars", unfollowed := true, recurses := true, apart := false, narrowed := true }
def FnStarsUptoSaid : Prop := fnStarsUptoRow.holds Try.pinned (OpenSpec.upto fnStarsSpec)

/-- 'laws.FnPaths', WHERE WHAT IT READS IS OF BULK AT MOST 1048576: true; the input reads as it did. -/
def fnPathsUptoRow : OpenClaim := { program := "ytkilnneepnbckaa", sum := "5c84712bc2179936734a12bea11d95201806421c13fdf5ced20b68013d58909d", func := "loop.example/g00941/laws.FnPaths", spec := "fnPaths", unfollowed := true, recurses := true, apart := false, narrowed := true }
def FnPathsUptoSaid : Prop := fnPathsUptoRow.holds Try.pinned (OpenSpec.upto fnPathsSpec)

/-- 'laws.FnPositiveCycles', WHERE WHAT IT READS IS OF BULK AT MOST 1048576: true; the input reads as it did. -/
def fnPositiveCyclesUptoRow : OpenClaim := { program := "ytkilnneepnbckaa", sum := "5c84712bc2179936734a12bea11d95201806421c13fdf5ced20b68013d58909d", func := "loop.example/g00941/laws.FnPositiveCycles", spec := "fnPositiveCycles", unfollowed := true, recurses := true, apart := false, narrowed := true }
def FnPositiveCyclesUptoSaid : Prop := fnPositiveCyclesUptoRow.holds Try.pinned (OpenSpec.upto fnPositiveCyclesSpec)

/-- 'laws.FnFixedPoints', WHERE WHAT IT READS IS OF BULK AT MOST 1048576: true; the input reads as it did. -/
def fnFixedPointsUptoRow : OpenClaim := { program := "ytkilnneepnbckaa", sum := "5c84712bc2179936734a12bea11d95201806421c13fdf5ced20b68013d58909d", func := "loop.example/g00941/laws.FnFixedPoints", spec := "fnFixedPoints", unfollowed := true, recurses := true, apart := false, narrowed := true }
def FnFixedPointsUptoSaid : Prop := fnFixedPointsUptoRow.holds Try.pinned (OpenSpec.upto fnFixedPointsSpec)

/-- 'laws.FnExactPathWeight', WHERE WHAT IT READS IS OF BULK AT MOST 1048576: true; the input reads as it did. -/
def fnExactPathWeightUptoRow : OpenClaim := { program := "ytkilnneepnbckaa", sum := "5c84712bc2179936734a12bea11d95201806421c13fdf5ced20b68013d58909d", func := "loop.example/g00941/laws.FnExactPathWeight", spec := "fnExactPathWeight", apart := false, narrowed := true }
def FnExactPathWeightUptoSaid : Prop := fnExactPathWeightUptoRow.holds Try.pinned (OpenSpec.upto fnExactPathWeightSpec)

/-- 'laws.FnExactIsCycle', WHERE WHAT IT READS IS OF BULK AT MOST 1048576: true; the input reads as it did. -/
def fnExactIsCycleUptoRow : OpenClaim := { program := "ytkilnneepnbckaa", sum := "5c84712bc2179936734a12bea11d95201806421c13fdf5ced20b68013d58909d", func := "loop.example/g00941/laws.FnExactIsCycle", spec := "fnExactIsCycle", apart := false, narrowed := true }
def FnExactIsCycleUptoSaid : Prop := fnExactIsCycleUptoRow.holds Try.pinned (OpenSpec.upto fnExactIsCycleSpec)

/-- 'laws.FnExactCycleWeight', WHERE WHAT IT READS IS OF BULK AT MOST 1048576: true; the input reads as it did. -/
def fnExactCycleWeightUptoRow : OpenClaim := { program := "ytkilnneepnbckaa", sum := "5c84712bc2179936734a12bea11d95201806421c13fdf5ced20b68013d58909d", func := "loop.example/g00941/laws.FnExactCycleWeight", spec := "fnExactCycleWeight", apart := false, narrowed := true }
def FnExactCycleWeightUptoSaid : Prop := fnExactCycleWeightUptoRow.holds Try.pinned (OpenSpec.upto fnExactCycleWeightSpec)

/-- 'laws.FnExactPositiveCycle', WHERE WHAT IT READS IS OF BULK AT MOST 1048576: true; the input reads as it did. -/
def fnExactPositiveCycleUptoRow : OpenClaim := { program := "ytkilnneepnbckaa", sum := "5c84712bc2179936734a12bea11d95201806421c13fdf5ced20b68013d58909d", func := "loop.example/g00941/laws.FnExactPositiveCycle", spec := "fnExactPositiveCycle", unfollowed := true, recurses := true, apart := false, narrowed := true }
def FnExactPositiveCycleUptoSaid : Prop := fnExactPositiveCycleUptoRow.holds Try.pinned (OpenSpec.upto fnExactPositiveCycleSpec)

/-- 'laws.FnExactStarMatrix', WHERE WHAT IT READS IS OF BULK AT MOST 1048576: true; the input reads as it did. -/
def fnExactStarMatrixUptoRow : OpenClaim := { program := "ytkilnneepnbckaa", sum := "5c84712bc2179936734a12bea11d95201806421c13fdf5ced20b68013d58909d", func := "loop.example/g00941/laws.FnExactStarMatrix", spec := "fnExactStarMatrix", unfollowed := true, recurses := true, apart := false, narrowed := true }
def FnExactStarMatrixUptoSaid : Prop := fnExactStarMatrixUptoRow.holds Try.pinned (OpenSpec.upto fnExactStarMatrixSpec)

/-- 'laws.FnExactPlusMatrix', WHERE WHAT IT READS IS OF BULK AT MOST 1048576: true; the input reads as it did. -/
def fnExactPlusMatrixUptoRow : OpenClaim := { program := "ytkilnneepnbckaa", sum := "5c84712bc2179936734a12bea11d95201806421c13fdf5ced20b68013d58909d", func := "loop.example/g00941/laws.FnExactPlusMatrix", spec := "fnExactPlusMatrix", unfollowed := true, recurses := true, apart := false, narrowed := true }
def FnExactPlusMatrixUptoSaid : Prop := fnExactPlusMatrixUptoRow.holds Try.pinned (OpenSpec.upto fnExactPlusMatrixSpec)

/-- 'laws.FnExactHeaviestPath', WHERE WHAT IT READS IS OF BULK AT MOST 1048576: true; the input reads as it did. -/
def fnExactHeaviestPathUptoRow : OpenClaim := { program := "ytkilnneepnbckaa", sum := "5c84712bc2179936734a12bea11d95201806421c13fdf5ced20b68013d58909d", func := "loop.example/g00941/laws.FnExactHeaviestPath", spec := "fnExactHeaviestPath", unfollowed := true, recurses := true, apart := false, narrowed := true }
def FnExactHeaviestPathUptoSaid : Prop := fnExactHeaviestPathUptoRow.holds Try.pinned (OpenSpec.upto fnExactHeaviestPathSpec)

/-- 'laws.FnExactFixedPoint', WHERE WHAT IT READS IS OF BULK AT MOST 1048576: true; the input reads as it did. -/
def fnExactFixedPointUptoRow : OpenClaim := { program := "ytkilnneepnbckaa", sum := "5c84712bc2179936734a12bea11d95201806421c13fdf5ced20b68013d58909d", func := "loop.example/g00941/laws.FnExactFixedPoint", spec := "fnExactFixedPoint", unfollowed := true, recurses := true, apart := false, narrowed := true }
def FnExactFixedPointUptoSaid : Prop := fnExactFixedPointUptoRow.holds Try.pinned (OpenSpec.upto fnExactFixedPointSpec)

end Rows
end Go.Proofs.Ytkilnneepnbckaa
