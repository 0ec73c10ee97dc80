/-
  No cell of these rows narrows 'for every input' (looked for: loops, veiled, ifaces, maps, wideKeys, modest, calm, conditions, laid).
  DERIVED. THE GIVEN ROWS OF THIS SEAT. 11 by the template 'for every input the law returns true; each argument reads behind the call as it read before'; 0 by the template 'total and deterministic' (their statements: YtlofnadpgnbmdaaTotals.lean).
  GIVEN WITH THE SEED: the statements are not yours to turn. If you find one false, say at which input.
  Laid BY PROGRAM, IN A SANDBOX (cutbox-rows.mjs): the forced cells as the released guide's own fill.sh prints them over the translation 03a5743a54d591ba… (all of the seat's roots in one cut). By AI agents, Wed Nov 11 2026. No macro, syntax, notation, axiom, sorry.
-/
import Derived.Test.YtlofnadpgnbmdaaChecked
import GoSem.Claim
import GoSem.ClaimJoined
import GoSem.ClaimMapViews
import Derived.JoinedTies
import Derived.KernelRfl
namespace Go.Proofs.Ytlofnadpgnbmdaa
/- THE CELL 'sum', in the pinned program and in every row, IS THE sha256 OF THE DUMP (.gsa) THAT YtlofnadpgnbmdaaProg.lean LOADS. Nothing in Lean hashes anything: it is a label: what it is worth is what the hold of that sum in a sandbox is worth. -/
noncomputable def Try.pinned : Pinned := { name := "ytlofnadpgnbmdaa", sum := "03a5743a54d591ba9d7fe163e7749345a608eeca3e7c666152d4fe320d910fdd", checked := Try.checked }
namespace Rows
def none {H : Type} : Left H := { results := [], args := [] }

/-- 'laws.FnSimplified': WHATEVER THE INPUT: true; the input reads as it did. -/
def fnSimplifiedSpec : ChangeSpec := { name := "fnSimplified", fn := fun _ => fun
  | [d] => { results := [.lit (.bool true)], args := [d] }
  | _ => none }
def fnSimplifiedRow : OpenClaim := { program := "ytlofnadpgnbmdaa", sum := "03a5743a54d591ba9d7fe163e7749345a608eeca3e7c666152d4fe320d910fdd", func := "loop.example/g00941/laws.FnSimplified", spec := "fnSimplified", unfollowed := true, recurses := true, apart := false }
def FnSimplifiedSaid : Prop := fnSimplifiedRow.holds Try.pinned (OpenSpec.ofChange fnSimplifiedSpec)

/-- ITS FALSE NEIGHBOUR: 'it returns false'. Refute it at one input. -/
def fnSimplifiedWrong : ChangeSpec := { name := "fnSimplified", fn := fun _ => fun
  | [d] => { results := [.lit (.bool false)], args := [d] }
  | _ => none }
def FnSimplifiedWrongFalsely : Prop := fnSimplifiedRow.holds Try.pinned (OpenSpec.ofChange fnSimplifiedWrong)

/-- 'laws.FnCircuits': WHATEVER THE INPUT: true; the input reads as it did. -/
def fnCircuitsSpec : ChangeSpec := { name := "fnCircuits", fn := fun _ => fun
  | [d] => { results := [.lit (.bool true)], args := [d] }
  | _ => none }
def fnCircuitsRow : OpenClaim := { program := "ytlofnadpgnbmdaa", sum := "03a5743a54d591ba9d7fe163e7749345a608eeca3e7c666152d4fe320d910fdd", func := "loop.example/g00941/laws.FnCircuits", spec := "fnCircuits", unfollowed := true, recurses := true, apart := false }
def FnCircuitsSaid : Prop := fnCircuitsRow.holds Try.pinned (OpenSpec.ofChange fnCircuitsSpec)

/-- ITS FALSE NEIGHBOUR: 'it returns false'. Refute it at one input. -/
def fnCircuitsWrong : ChangeSpec := { name := "fnCircuits", fn := fun _ => fun
  | [d] => { results := [.lit (.bool false)], args := [d] }
  | _ => none }
def FnCircuitsWrongFalsely : Prop := fnCircuitsRow.holds Try.pinned (OpenSpec.ofChange fnCircuitsWrong)

/-- 'laws.FnEventTimes': WHATEVER THE INPUT: true; the input reads as it did. -/
def fnEventTimesSpec : ChangeSpec := { name := "fnEventTimes", fn := fun _ => fun
  | [d] => { results := [.lit (.bool true)], args := [d] }
  | _ => none }
def fnEventTimesRow : OpenClaim := { program := "ytlofnadpgnbmdaa", sum := "03a5743a54d591ba9d7fe163e7749345a608eeca3e7c666152d4fe320d910fdd", func := "loop.example/g00941/laws.FnEventTimes", spec := "fnEventTimes", unfollowed := true, recurses := true, apart := false }
def FnEventTimesSaid : Prop := fnEventTimesRow.holds Try.pinned (OpenSpec.ofChange fnEventTimesSpec)

/-- ITS FALSE NEIGHBOUR: 'it returns false'. Refute it at one input. -/
def fnEventTimesWrong : ChangeSpec := { name := "fnEventTimes", fn := fun _ => fun
  | [d] => { results := [.lit (.bool false)], args := [d] }
  | _ => none }
def FnEventTimesWrongFalsely : Prop := fnEventTimesRow.holds Try.pinned (OpenSpec.ofChange fnEventTimesWrong)

/-- 'laws.FnExactSimplifyGraph': WHATEVER THE INPUT: true; the input reads as it did. -/
def fnExactSimplifyGraphSpec : ChangeSpec := { name := "fnExactSimplifyGraph", fn := fun _ => fun
  | [d] => { results := [.lit (.bool true)], args := [d] }
  | _ => none }
def fnExactSimplifyGraphRow : OpenClaim := { program := "ytlofnadpgnbmdaa", sum := "03a5743a54d591ba9d7fe163e7749345a608eeca3e7c666152d4fe320d910fdd", func := "loop.example/g00941/laws.FnExactSimplifyGraph", spec := "fnExactSimplifyGraph", unfollowed := true, recurses := true, apart := false }
def FnExactSimplifyGraphSaid : Prop := fnExactSimplifyGraphRow.holds Try.pinned (OpenSpec.ofChange fnExactSimplifyGraphSpec)

/-- ITS FALSE NEIGHBOUR: 'it returns false'. Refute it at one input. -/
def fnExactSimplifyGraphWrong : ChangeSpec := { name := "fnExactSimplifyGraph", fn := fun _ => fun
  | [d] => { results := [.lit (.bool false)], args := [d] }
  | _ => none }
def FnExactSimplifyGraphWrongFalsely : Prop := fnExactSimplifyGraphRow.holds Try.pinned (OpenSpec.ofChange fnExactSimplifyGraphWrong)

/-- 'laws.FnExactIsCircuit': WHATEVER THE INPUT: true; the input reads as it did. -/
def fnExactIsCircuitSpec : ChangeSpec := { name := "fnExactIsCircuit", fn := fun _ => fun
  | [d1, d2] => { results := [.lit (.bool true)], args := [d1, d2] }
  | _ => none }
def fnExactIsCircuitRow : OpenClaim := { program := "ytlofnadpgnbmdaa", sum := "03a5743a54d591ba9d7fe163e7749345a608eeca3e7c666152d4fe320d910fdd", func := "loop.example/g00941/laws.FnExactIsCircuit", spec := "fnExactIsCircuit", unfollowed := true, recurses := true, apart := false }
def FnExactIsCircuitSaid : Prop := fnExactIsCircuitRow.holds Try.pinned (OpenSpec.ofChange fnExactIsCircuitSpec)

/-- ITS FALSE NEIGHBOUR: 'it returns false'. Refute it at one input. -/
def fnExactIsCircuitWrong : ChangeSpec := { name := "fnExactIsCircuit", fn := fun _ => fun
  | [d1, d2] => { results := [.lit (.bool false)], args := [d1, d2] }
  | _ => none }
def FnExactIsCircuitWrongFalsely : Prop := fnExactIsCircuitRow.holds Try.pinned (OpenSpec.ofChange fnExactIsCircuitWrong)

/-- 'laws.FnExactCircuitRatio': WHATEVER THE INPUT: true; the input reads as it did. -/
def fnExactCircuitRatioSpec : ChangeSpec := { name := "fnExactCircuitRatio", fn := fun _ => fun
  | [d1, d2] => { results := [.lit (.bool true)], args := [d1, d2] }
  | _ => none }
def fnExactCircuitRatioRow : OpenClaim := { program := "ytlofnadpgnbmdaa", sum := "03a5743a54d591ba9d7fe163e7749345a608eeca3e7c666152d4fe320d910fdd", func := "loop.example/g00941/laws.FnExactCircuitRatio", spec := "fnExactCircuitRatio", unfollowed := true, recurses := true, apart := false }
def FnExactCircuitRatioSaid : Prop := fnExactCircuitRatioRow.holds Try.pinned (OpenSpec.ofChange fnExactCircuitRatioSpec)

/-- ITS FALSE NEIGHBOUR: 'it returns false'. Refute it at one input. -/
def fnExactCircuitRatioWrong : ChangeSpec := { name := "fnExactCircuitRatio", fn := fun _ => fun
  | [d1, d2] => { results := [.lit (.bool false)], args := [d1, d2] }
  | _ => none }
def FnExactCircuitRatioWrongFalsely : Prop := fnExactCircuitRatioRow.holds Try.pinned (OpenSpec.ofChange fnExactCircuitRatioWrong)

/-- 'laws.FnExactCycleTime': WHATEVER THE INPUT: true; the input reads as it did. -/
def fnExactCycleTimeSpec : ChangeSpec := { name := "fnExactCycleTime", fn := fun _ => fun
  | [d] => { results := [.lit (.bool true)], args := [d] }
  | _ => none }
def fnExactCycleTimeRow : OpenClaim := { program := "ytlofnadpgnbmdaa", sum := "03a5743a54d591ba9d7fe163e7749345a608eeca3e7c666152d4fe320d910fdd", func := "loop.example/g00941/laws.FnExactCycleTime", spec := "fnExactCycleTime", unfollowed := true, recurses := true, apart := false }
def FnExactCycleTimeSaid : Prop := fnExactCycleTimeRow.holds Try.pinned (OpenSpec.ofChange fnExactCycleTimeSpec)

/-- ITS FALSE NEIGHBOUR: 'it returns false'. Refute it at one input. -/
def fnExactCycleTimeWrong : ChangeSpec := { name := "fnExactCycleTime", fn := fun _ => fun
  | [d] => { results := [.lit (.bool false)], args := [d] }
  | _ => none }
def FnExactCycleTimeWrongFalsely : Prop := fnExactCycleTimeRow.holds Try.pinned (OpenSpec.ofChange fnExactCycleTimeWrong)

/-- 'laws.FnExactBestCircuit': WHATEVER THE INPUT: true; the input reads as it did. -/
def fnExactBestCircuitSpec : ChangeSpec := { name := "fnExactBestCircuit", fn := fun _ => fun
  | [d] => { results := [.lit (.bool true)], args := [d] }
  | _ => none }
def fnExactBestCircuitRow : OpenClaim := { program := "ytlofnadpgnbmdaa", sum := "03a5743a54d591ba9d7fe163e7749345a608eeca3e7c666152d4fe320d910fdd", func := "loop.example/g00941/laws.FnExactBestCircuit", spec := "fnExactBestCircuit", unfollowed := true, recurses := true, apart := false }
def FnExactBestCircuitSaid : Prop := fnExactBestCircuitRow.holds Try.pinned (OpenSpec.ofChange fnExactBestCircuitSpec)

/-- ITS FALSE NEIGHBOUR: 'it returns false'. Refute it at one input. -/
def fnExactBestCircuitWrong : ChangeSpec := { name := "fnExactBestCircuit", fn := fun _ => fun
  | [d] => { results := [.lit (.bool false)], args := [d] }
  | _ => none }
def FnExactBestCircuitWrongFalsely : Prop := fnExactBestCircuitRow.holds Try.pinned (OpenSpec.ofChange fnExactBestCircuitWrong)

/-- 'laws.FnExactEventTime': WHATEVER THE INPUT: true; the input reads as it did. -/
def fnExactEventTimeSpec : ChangeSpec := { name := "fnExactEventTime", fn := fun _ => fun
  | [d1, d2] => { results := [.lit (.bool true)], args := [d1, d2] }
  | _ => none }
def fnExactEventTimeRow : OpenClaim := { program := "ytlofnadpgnbmdaa", sum := "03a5743a54d591ba9d7fe163e7749345a608eeca3e7c666152d4fe320d910fdd", func := "loop.example/g00941/laws.FnExactEventTime", spec := "fnExactEventTime", unfollowed := true, recurses := true, apart := false }
def FnExactEventTimeSaid : Prop := fnExactEventTimeRow.holds Try.pinned (OpenSpec.ofChange fnExactEventTimeSpec)

/-- ITS FALSE NEIGHBOUR: 'it returns false'. Refute it at one input. -/
def fnExactEventTimeWrong : ChangeSpec := { name := "fnExactEventTime", fn := fun _ => fun
  | [d1, d2] => { results := [.lit (.bool false)], args := [d1, d2] }
  | _ => none }
def FnExactEventTimeWrongFalsely : Prop := fnExactEventTimeRow.holds Try.pinned (OpenSpec.ofChange fnExactEventTimeWrong)

/-- 'laws.FnExactIsTimePotential': WHATEVER THE INPUT: true; the input reads as it did. -/
def fnExactIsTimePotentialSpec : ChangeSpec := { name := "fnExactIsTimePotential", fn := fun _ => fun
  | [d1, d2, d3] => { results := [.lit (.bool true)], args := [d1, d2, d3] }
  | _ => none }
def fnExactIsTimePotentialRow : OpenClaim := { program := "ytlofnadpgnbmdaa", sum := "03a5743a54d591ba9d7fe163e7749345a608eeca3e7c666152d4fe320d910fdd", func := "loop.example/g00941/laws.FnExactIsTimePotential", spec := "fnExactIsTimePotential", unfollowed := true, recurses := true, apart := false }
def FnExactIsTimePotentialSaid : Prop := fnExactIsTimePotentialRow.holds Try.pinned (OpenSpec.ofChange fnExactIsTimePotentialSpec)

/-- ITS FALSE NEIGHBOUR: 'it returns false'. Refute it at one input. -/
def fnExactIsTimePotentialWrong : ChangeSpec := { name := "fnExactIsTimePotential", fn := fun _ => fun
  | [d1, d2, d3] => { results := [.lit (.bool false)], args := [d1, d2, d3] }
  | _ => none }
def FnExactIsTimePotentialWrongFalsely : Prop := fnExactIsTimePotentialRow.holds Try.pinned (OpenSpec.ofChange fnExactIsTimePotentialWrong)

/-- 'laws.FnExactTimePotential': WHATEVER THE INPUT: true; the input reads as it did. -/
def fnExactTimePotentialSpec : ChangeSpec := { name := "fnExactTimePotential", fn := fun _ => fun
  | [d1, d2] => { results := [.lit (.bool true)], args := [d1, d2] }
  | _ => none }
def fnExactTimePotentialRow : OpenClaim := { program := "ytlofnadpgnbmdaa", sum := "03a5743a54d591ba9d7fe163e7749345a608eeca3e7c666152d4fe320d910fdd", func := "loop.example/g00941/laws.FnExactTimePotential", spec := "fnExactTimePotential", unfollowed := true, recurses := true, apart := false }
def FnExactTimePotentialSaid : Prop := fnExactTimePotentialRow.holds Try.pinned (OpenSpec.ofChange fnExactTimePotentialSpec)

/-- ITS FALSE NEIGHBOUR: 'it returns false'. Refute it at one input. -/
def fnExactTimePotentialWrong : ChangeSpec := { name := "fnExactTimePotential", fn := fun _ => fun
  | [d1, d2] => { results := [.lit (.bool false)], args := [d1, d2] }
  | _ => none }
def FnExactTimePotentialWrongFalsely : Prop := fnExactTimePotentialRow.holds Try.pinned (OpenSpec.ofChange fnExactTimePotentialWrong)

/- THE SECOND FORM. 'bulk': how many values and letters a reading holds, each counted each time it is reached (what is shared counts as often as it is met; a slice's spare places count too). A statement '..UptoSaid' is the law's where the arguments, and the package variables that the reading takes, are together of bulk at most 1048576: NARROWER than '..Said'. Prove '..Said' where nothing that the law and all that it calls make is longer than what came in: it says more and counts as full. Else prove '..UptoSaid'. A law counts once. -/
mutual
def uptoBulk {H : Type} : DataW H → Nat
  | .lit (.string bytes) => bytes.length + 1
  | .lit _ => 1
  | .nil => 1
  | .ptr d => uptoBulk d + 1
  | .slice elems spare => uptoBulkAll elems + uptoBulkAll spare + 1
  | .agg parts => uptoBulkAll parts + 1
  | .iface _ d => uptoBulk d + 1
  | .map entries => uptoBulkEntries entries + 1
  | .held _ => 1
def uptoBulkAll {H : Type} : List (DataW H) → Nat
  | [] => 0
  | d :: r => uptoBulk d + uptoBulkAll r
def uptoBulkEntries {H : Type} : List (Lit × DataW H) → Nat
  | [] => 0
  | x :: r => uptoBulkEntry x + uptoBulkEntries r
def uptoBulkEntry {H : Type} : Lit × DataW H → Nat
  | (.string bytes, d) => bytes.length + uptoBulk d + 1
  | (_, d) => uptoBulk d + 1
 end
def uptoSmall : (H : Type) → List (DataW H) → Bool := fun _ ds => decide (uptoBulkAll ds ≤ 1048576)
def OpenSpec.upto (s : _root_.Go.ChangeSpec) : _root_.Go.OpenSpec := { _root_.Go.OpenSpec.ofChange s with cond := some uptoSmall }

/-- 'laws.FnSimplified', WHERE WHAT IT READS IS OF BULK AT MOST 1048576: true; the input reads as it did. -/
def fnSimplifiedUptoRow : OpenClaim := { program := "ytlofnadpgnbmdaa", sum := "03a5743a54d591ba9d7fe163e7749345a608eeca3e7c666152d4fe320d910fdd", func := "loop.example/g00941/laws.FnSimplified", spec := "fnSimplified", unfollowed := true, recurses := true, apart := false, narrowed := true }
def FnSimplifiedUptoSaid : Prop := fnSimplifiedUptoRow.holds Try.pinned (OpenSpec.upto fnSimplifiedSpec)

/-- 'laws.FnCircuits', WHERE WHAT IT READS IS OF BULK AT MOST 1048576: true; the input reads as it did. -/
def fnCircuitsUptoRow : OpenClaim := { program := "ytlofnadpgnbmdaa", sum := "03a5743a54d591ba9d7fe163e7749345a608eeca3e7c666152d4fe320d910fdd", func := "loop.example/g00941/laws.FnCircuits", spec := "fnCircuits", unfollowed := true, recurses := true, apart := false, narrowed := true }
def FnCircuitsUptoSaid : Prop := fnCircuitsUptoRow.holds Try.pinned (OpenSpec.upto fnCircuitsSpec)

/-- 'laws.FnEventTimes', WHERE WHAT IT READS IS OF BULK AT MOST 1048576: true; the input reads as it did. -/
def fnEventTimesUptoRow : OpenClaim := { program := "ytlofnadpgnbmdaa", sum := "03a5743a54d591ba9d7fe163e7749345a608eeca3e7c666152d4fe320d910fdd", func := "loop.example/g00941/laws.FnEventTimes", spec := "fnEventTimes", unfollowed := true, recurses := true, apart := false, narrowed := true }
def FnEventTimesUptoSaid : Prop := fnEventTimesUptoRow.holds Try.pinned (OpenSpec.upto fnEventTimesSpec)

/-- 'laws.FnExactSimplifyGraph', WHERE WHAT IT READS IS OF BULK AT MOST 1048576: true; the input reads as it did. -/
def fnExactSimplifyGraphUptoRow : OpenClaim := { program := "ytlofnadpgnbmdaa", sum := "03a5743a54d591ba9d7fe163e7749345a608eeca3e7c666152d4fe320d910fdd", func := "loop.example/g00941/laws.FnExactSimplifyGraph", spec := "fnExactSimplifyGraph", unfollowed := true, recurses := true, apart := false, narrowed := true }
def FnExactSimplifyGraphUptoSaid : Prop := fnExactSimplifyGraphUptoRow.holds Try.pinned (OpenSpec.upto fnExactSimplifyGraphSpec)

/-- 'laws.FnExactIsCircuit', WHERE WHAT IT READS IS OF BULK AT MOST 1048576: true; the input reads as it did. -/
def fnExactIsCircuitUptoRow : OpenClaim := { program := "ytlofnadpgnbmdaa", sum := "03a5743a54d591ba9d7fe163e7749345a608eeca3e7c666152d4fe320d910fdd", func := "loop.example/g00941/laws.FnExactIsCircuit", spec := "fnExactIsCircuit", unfollowed := true, recurses := true, apart := false, narrowed := true }
def FnExactIsCircuitUptoSaid : Prop := fnExactIsCircuitUptoRow.holds Try.pinned (OpenSpec.upto fnExactIsCircuitSpec)

/-- 'laws.FnExactCircuitRatio', WHERE WHAT IT READS IS OF BULK AT MOST 1048576: true; the input reads as it did. -/
def fnExactCircuitRatioUptoRow : OpenClaim := { program := "ytlofnadpgnbmdaa", sum := "03a5743a54d591ba9d7fe163e7749345a608eeca3e7c666152d4fe320d910fdd", func := "loop.example/g00941/laws.FnExactCircuitRatio", spec := "fnExactCircuitRatio", unfollowed := true, recurses := true, apart := false, narrowed := true }
def FnExactCircuitRatioUptoSaid : Prop := fnExactCircuitRatioUptoRow.holds Try.pinned (OpenSpec.upto fnExactCircuitRatioSpec)

/-- 'laws.FnExactCycleTime', WHERE WHAT IT READS IS OF BULK AT MOST 1048576: true; the input reads as it did. -/
def fnExactCycleTimeUptoRow : OpenClaim := { program := "ytlofnadpgnbmdaa", sum := "03a5743a54d591ba9d7fe163e7749345a608eeca3e7c666152d4fe320d910fdd", func := "loop.example/g00941/laws.FnExactCycleTime", spec := "fnExactCycleTime", unfollowed := true, recurses := true, apart := false, narrowed := true }
def FnExactCycleTimeUptoSaid : Prop := fnExactCycleTimeUptoRow.holds Try.pinned (OpenSpec.upto fnExactCycleTimeSpec)

/-- 'laws.FnExactBestCircuit', WHERE WHAT IT READS IS OF BULK AT MOST 1048576: true; the input reads as it did. -/
def fnExactBestCircuitUptoRow : OpenClaim := { program := "ytlofnadpgnbmdaa", sum := "03a5743a54d591ba9d7fe163e7749345a608eeca3e7c666152d4fe320d910fdd", func := "loop.example/g00941/laws.FnExactBestCircuit", spec := "fnExactBestCircuit", unfollowed := true, recurses := true, apart := false, narrowed := true }
def FnExactBestCircuitUptoSaid : Prop := fnExactBestCircuitUptoRow.holds Try.pinned (OpenSpec.upto fnExactBestCircuitSpec)

/-- 'laws.FnExactEventTime', WHERE WHAT IT READS IS OF BULK AT MOST 1048576: true; the input reads as it did. -/
def fnExactEventTimeUptoRow : OpenClaim := { program := "ytlofnadpgnbmdaa", sum := "03a5743a54d591ba9d7fe163e7749345a608eeca3e7c666152d4fe320d910fdd", func := "loop.example/g00941/laws.FnExactEventTime", spec := "fnExactEventTime", unfollowed := true, recurses := true, apart := false, narrowed := true }
def FnExactEventTimeUptoSaid : Prop := fnExactEventTimeUptoRow.holds Try.pinned (OpenSpec.upto fnExactEventTimeSpec)

/-- 'laws.FnExactIsTimePotential', WHERE WHAT IT READS IS OF BULK AT MOST 1048576: true; the input reads as it did. -/
def fnExactIsTimePotentialUptoRow : OpenClaim := { program := "ytlofnadpgnbmdaa", sum := "03a5743a54d591ba9d7fe163e7749345a608eeca3e7c666152d4fe320d910fdd", func := "loop.example/g00941/laws.FnExactIsTimePotential", spec := "fnExactIsTimePotential", unfollowed := true, recurses := true, apart := false, narrowed := true }
def FnExactIsTimePotentialUptoSaid : Prop := fnExactIsTimePotentialUptoRow.holds Try.pinned (OpenSpec.upto fnExactIsTimePotentialSpec)

/-- 'laws.FnExactTimePotential', WHERE WHAT IT READS IS OF BULK AT MOST 1048576: true; the input reads as it did. -/
def fnExactTimePotentialUptoRow : OpenClaim := { program := "ytlofnadpgnbmdaa", sum := "03a5743a54d591ba9d7fe163e7749345a608eeca3e7c666152d4fe320d910fdd", func := "loop.example/g00941/laws.FnExactTimePotential", spec := "fnExactTimePotential", unfollowed := true, recurses := true, apart := false, narrowed := true }
def FnExactTimePotentialUptoSaid : Prop := fnExactTimePotentialUptoRow.holds Try.pinned (OpenSpec.upto fnExactTimePotentialSpec)

end Rows
end Go.Proofs.Ytlofnadpgnbmdaa
