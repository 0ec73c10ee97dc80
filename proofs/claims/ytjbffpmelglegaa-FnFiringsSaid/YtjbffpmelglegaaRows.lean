/-
  No cell of these rows narrows 'for every input' (looked for: loops, veiled, ifaces, maps, wideKeys, modest, calm, conditions, laid).
  DERIVED. THE GIVEN ROWS OF THIS SEAT. 11 by the template 'for every input the law returns true; each argument reads behind the call as it read before'; 0 by the template 'total and deterministic' (their statements: YtjbffpmelglegaaTotals.lean).
  GIVEN WITH THE SEED: the statements are not yours to turn. If you find one false, say at which input.
  Laid BY PROGRAM, IN A SANDBOX (cutbox-rows.mjs): the forced cells as the released guide's own fill.sh prints them over the translation c5fa8c56a45d4b58… (all of the seat's roots in one cut). By AI agents, Wed Nov 11 2026. No macro, syntax, notation, axiom, sorry.
-/
import Derived.Test.YtjbffpmelglegaaChecked
import GoSem.Claim
import GoSem.ClaimJoined
import GoSem.ClaimMapViews
import Derived.JoinedTies
import Derived.KernelRfl
namespace Go.Proofs.Ytjbffpmelglegaa
/- THE CELL 'sum', in the pinned program and in every row, IS THE sha256 OF THE DUMP (.gsa) THAT YtjbffpmelglegaaProg.lean LOADS. Nothing in Lean hashes anything: it is a label: what it is worth is what the hold of that sum in a sandbox is worth. -/
noncomputable def Try.pinned : Pinned := { name := "ytjbffpmelglegaa", sum := "c5fa8c56a45d4b5870c6dcaae8babc1db4be683b1f72838515c720e43a8b516e", checked := Try.checked }
namespace Rows
def none {H : Type} : Left H := { results := [], args := [] }

/-- 'laws.FnExactTimesIn': WHATEVER THE INPUT: true; the input reads as it did. -/
def fnExactTimesInSpec : ChangeSpec := { name := "fnExactTimesIn", fn := fun _ => fun
  | [d1, d2] => { results := [.lit (.bool true)], args := [d1, d2] }
  | _ => none }
def fnExactTimesInRow : OpenClaim := { program := "ytjbffpmelglegaa", sum := "c5fa8c56a45d4b5870c6dcaae8babc1db4be683b1f72838515c720e43a8b516e", func := "loop.example/g00941/laws.FnExactTimesIn", spec := "fnExactTimesIn", apart := false }
def FnExactTimesInSaid : Prop := fnExactTimesInRow.holds Try.pinned (OpenSpec.ofChange fnExactTimesInSpec)

/-- ITS FALSE NEIGHBOUR: 'it returns false'. Refute it at one input. -/
def fnExactTimesInWrong : ChangeSpec := { name := "fnExactTimesIn", fn := fun _ => fun
  | [d1, d2] => { results := [.lit (.bool false)], args := [d1, d2] }
  | _ => none }
def FnExactTimesInWrongFalsely : Prop := fnExactTimesInRow.holds Try.pinned (OpenSpec.ofChange fnExactTimesInWrong)

/-- 'laws.FnExactIsRun': WHATEVER THE INPUT: true; the input reads as it did. -/
def fnExactIsRunSpec : ChangeSpec := { name := "fnExactIsRun", fn := fun _ => fun
  | [d1, d2] => { results := [.lit (.bool true)], args := [d1, d2] }
  | _ => none }
def fnExactIsRunRow : OpenClaim := { program := "ytjbffpmelglegaa", sum := "c5fa8c56a45d4b5870c6dcaae8babc1db4be683b1f72838515c720e43a8b516e", func := "loop.example/g00941/laws.FnExactIsRun", spec := "fnExactIsRun", unfollowed := true, recurses := true, apart := false }
def FnExactIsRunSaid : Prop := fnExactIsRunRow.holds Try.pinned (OpenSpec.ofChange fnExactIsRunSpec)

/-- ITS FALSE NEIGHBOUR: 'it returns false'. Refute it at one input. -/
def fnExactIsRunWrong : ChangeSpec := { name := "fnExactIsRun", fn := fun _ => fun
  | [d1, d2] => { results := [.lit (.bool false)], args := [d1, d2] }
  | _ => none }
def FnExactIsRunWrongFalsely : Prop := fnExactIsRunRow.holds Try.pinned (OpenSpec.ofChange fnExactIsRunWrong)

/-- 'laws.FnExactMarkingAfter': WHATEVER THE INPUT: true; the input reads as it did. -/
def fnExactMarkingAfterSpec : ChangeSpec := { name := "fnExactMarkingAfter", fn := fun _ => fun
  | [d1, d2] => { results := [.lit (.bool true)], args := [d1, d2] }
  | _ => none }
def fnExactMarkingAfterRow : OpenClaim := { program := "ytjbffpmelglegaa", sum := "c5fa8c56a45d4b5870c6dcaae8babc1db4be683b1f72838515c720e43a8b516e", func := "loop.example/g00941/laws.FnExactMarkingAfter", spec := "fnExactMarkingAfter", unfollowed := true, recurses := true, apart := false }
def FnExactMarkingAfterSaid : Prop := fnExactMarkingAfterRow.holds Try.pinned (OpenSpec.ofChange fnExactMarkingAfterSpec)

/-- ITS FALSE NEIGHBOUR: 'it returns false'. Refute it at one input. -/
def fnExactMarkingAfterWrong : ChangeSpec := { name := "fnExactMarkingAfter", fn := fun _ => fun
  | [d1, d2] => { results := [.lit (.bool false)], args := [d1, d2] }
  | _ => none }
def FnExactMarkingAfterWrongFalsely : Prop := fnExactMarkingAfterRow.holds Try.pinned (OpenSpec.ofChange fnExactMarkingAfterWrong)

/-- 'laws.FnExactLatenessOf': WHATEVER THE INPUT: true; the input reads as it did. -/
def fnExactLatenessOfSpec : ChangeSpec := { name := "fnExactLatenessOf", fn := fun _ => fun
  | [d1, d2] => { results := [.lit (.bool true)], args := [d1, d2] }
  | _ => none }
def fnExactLatenessOfRow : OpenClaim := { program := "ytjbffpmelglegaa", sum := "c5fa8c56a45d4b5870c6dcaae8babc1db4be683b1f72838515c720e43a8b516e", func := "loop.example/g00941/laws.FnExactLatenessOf", spec := "fnExactLatenessOf", unfollowed := true, recurses := true, apart := false }
def FnExactLatenessOfSaid : Prop := fnExactLatenessOfRow.holds Try.pinned (OpenSpec.ofChange fnExactLatenessOfSpec)

/-- ITS FALSE NEIGHBOUR: 'it returns false'. Refute it at one input. -/
def fnExactLatenessOfWrong : ChangeSpec := { name := "fnExactLatenessOf", fn := fun _ => fun
  | [d1, d2] => { results := [.lit (.bool false)], args := [d1, d2] }
  | _ => none }
def FnExactLatenessOfWrongFalsely : Prop := fnExactLatenessOfRow.holds Try.pinned (OpenSpec.ofChange fnExactLatenessOfWrong)

/-- 'laws.FnExactNextEvents': WHATEVER THE INPUT: true; the input reads as it did. -/
def fnExactNextEventsSpec : ChangeSpec := { name := "fnExactNextEvents", fn := fun _ => fun
  | [d1, d2] => { results := [.lit (.bool true)], args := [d1, d2] }
  | _ => none }
def fnExactNextEventsRow : OpenClaim := { program := "ytjbffpmelglegaa", sum := "c5fa8c56a45d4b5870c6dcaae8babc1db4be683b1f72838515c720e43a8b516e", func := "loop.example/g00941/laws.FnExactNextEvents", spec := "fnExactNextEvents", unfollowed := true, recurses := true, apart := false }
def FnExactNextEventsSaid : Prop := fnExactNextEventsRow.holds Try.pinned (OpenSpec.ofChange fnExactNextEventsSpec)

/-- ITS FALSE NEIGHBOUR: 'it returns false'. Refute it at one input. -/
def fnExactNextEventsWrong : ChangeSpec := { name := "fnExactNextEvents", fn := fun _ => fun
  | [d1, d2] => { results := [.lit (.bool false)], args := [d1, d2] }
  | _ => none }
def FnExactNextEventsWrongFalsely : Prop := fnExactNextEventsRow.holds Try.pinned (OpenSpec.ofChange fnExactNextEventsWrong)

/-- 'laws.FnRuns': WHATEVER THE INPUT: true; the input reads as it did. -/
def fnRunsSpec : ChangeSpec := { name := "fnRuns", fn := fun _ => fun
  | [d] => { results := [.lit (.bool true)], args := [d] }
  | _ => none }
def fnRunsRow : OpenClaim := { program := "ytjbffpmelglegaa", sum := "c5fa8c56a45d4b5870c6dcaae8babc1db4be683b1f72838515c720e43a8b516e", func := "loop.example/g00941/laws.FnRuns", spec := "fnRuns", unfollowed := true, recurses := true, apart := false }
def FnRunsSaid : Prop := fnRunsRow.holds Try.pinned (OpenSpec.ofChange fnRunsSpec)

/-- ITS FALSE NEIGHBOUR: 'it returns false'. Refute it at one input. -/
def fnRunsWrong : ChangeSpec := { name := "fnRuns", fn := fun _ => fun
  | [d] => { results := [.lit (.bool false)], args := [d] }
  | _ => none }
def FnRunsWrongFalsely : Prop := fnRunsRow.holds Try.pinned (OpenSpec.ofChange fnRunsWrong)

/-- 'laws.FnExactStateMatrix': WHATEVER THE INPUT: true; the input reads as it did. -/
def fnExactStateMatrixSpec : ChangeSpec := { name := "fnExactStateMatrix", fn := fun _ => fun
  | [d] => { results := [.lit (.bool true)], args := [d] }
  | _ => none }
def fnExactStateMatrixRow : OpenClaim := { program := "ytjbffpmelglegaa", sum := "c5fa8c56a45d4b5870c6dcaae8babc1db4be683b1f72838515c720e43a8b516e", func := "loop.example/g00941/laws.FnExactStateMatrix", spec := "fnExactStateMatrix", unfollowed := true, recurses := true, apart := false }
def FnExactStateMatrixSaid : Prop := fnExactStateMatrixRow.holds Try.pinned (OpenSpec.ofChange fnExactStateMatrixSpec)

/-- ITS FALSE NEIGHBOUR: 'it returns false'. Refute it at one input. -/
def fnExactStateMatrixWrong : ChangeSpec := { name := "fnExactStateMatrix", fn := fun _ => fun
  | [d] => { results := [.lit (.bool false)], args := [d] }
  | _ => none }
def FnExactStateMatrixWrongFalsely : Prop := fnExactStateMatrixRow.holds Try.pinned (OpenSpec.ofChange fnExactStateMatrixWrong)

/-- 'laws.FnFirings': WHATEVER THE INPUT: true; the input reads as it did. -/
def fnFiringsSpec : ChangeSpec := { name := "fnFirings", fn := fun _ => fun
  | [d] => { results := [.lit (.bool true)], args := [d] }
  | _ => none }
def fnFiringsRow : OpenClaim := { program := "ytjbffpmelglegaa", sum := "c5fa8c56a45d4b5870c6dcaae8babc1db4be683b1f72838515c720e43a8b516e", func := "loop.example/g00941/laws.FnFirings", spec := "fnFirings", unfollowed := true, recurses := true, apart := false }
def FnFiringsSaid : Prop := fnFiringsRow.holds Try.pinned (OpenSpec.ofChange fnFiringsSpec)

/-- ITS FALSE NEIGHBOUR: 'it returns false'. Refute it at one input. -/
def fnFiringsWrong : ChangeSpec := { name := "fnFirings", fn := fun _ => fun
  | [d] => { results := [.lit (.bool false)], args := [d] }
  | _ => none }
def FnFiringsWrongFalsely : Prop := fnFiringsRow.holds Try.pinned (OpenSpec.ofChange fnFiringsWrong)

/-- 'laws.FnStarted': WHATEVER THE INPUT: true; the input reads as it did. -/
def fnStartedSpec : ChangeSpec := { name := "fnStarted", fn := fun _ => fun
  | [d] => { results := [.lit (.bool true)], args := [d] }
  | _ => none }
def fnStartedRow : OpenClaim := { program := "ytjbffpmelglegaa", sum := "c5fa8c56a45d4b5870c6dcaae8babc1db4be683b1f72838515c720e43a8b516e", func := "loop.example/g00941/laws.FnStarted", spec := "fnStarted", unfollowed := true, recurses := true, apart := false }
def FnStartedSaid : Prop := fnStartedRow.holds Try.pinned (OpenSpec.ofChange fnStartedSpec)

/-- ITS FALSE NEIGHBOUR: 'it returns false'. Refute it at one input. -/
def fnStartedWrong : ChangeSpec := { name := "fnStarted", fn := fun _ => fun
  | [d] => { results := [.lit (.bool false)], args := [d] }
  | _ => none }
def FnStartedWrongFalsely : Prop := fnStartedRow.holds Try.pinned (OpenSpec.ofChange fnStartedWrong)

/-- 'laws.FnExactSimplifyGraph': WHATEVER THE INPUT: true; the input reads as it did. -/
def fnExactSimplifyGraphSpec : ChangeSpec := { name := "fnExactSimplifyGraph", fn := fun _ => fun
  | [d] => { results := [.lit (.bool true)], args := [d] }
  | _ => none }
def fnExactSimplifyGraphRow : OpenClaim := { program := "ytjbffpmelglegaa", sum := "c5fa8c56a45d4b5870c6dcaae8babc1db4be683b1f72838515c720e43a8b516e", func := "loop.example/g00941/laws.FnExactSimplifyGraph", spec := "fnExactSimplifyGraph", unfollowed := true, recurses := true, apart := false }
def FnExactSimplifyGraphSaid : Prop := fnExactSimplifyGraphRow.holds Try.pinned (OpenSpec.ofChange fnExactSimplifyGraphSpec)

/-- ITS FALSE NEIGHBOUR: 'it returns false'. Refute it at one input. -/
def fnExactSimplifyGraphWrong : ChangeSpec := { name := "fnExactSimplifyGraph", fn := fun _ => fun
  | [d] => { results := [.lit (.bool false)], args := [d] }
  | _ => none }
def FnExactSimplifyGraphWrongFalsely : Prop := fnExactSimplifyGraphRow.holds Try.pinned (OpenSpec.ofChange fnExactSimplifyGraphWrong)

/-- 'laws.FnSimplified': WHATEVER THE INPUT: true; the input reads as it did. -/
def fnSimplifiedSpec : ChangeSpec := { name := "fnSimplified", fn := fun _ => fun
  | [d] => { results := [.lit (.bool true)], args := [d] }
  | _ => none }
def fnSimplifiedRow : OpenClaim := { program := "ytjbffpmelglegaa", sum := "c5fa8c56a45d4b5870c6dcaae8babc1db4be683b1f72838515c720e43a8b516e", func := "loop.example/g00941/laws.FnSimplified", spec := "fnSimplified", unfollowed := true, recurses := true, apart := false }
def FnSimplifiedSaid : Prop := fnSimplifiedRow.holds Try.pinned (OpenSpec.ofChange fnSimplifiedSpec)

/-- ITS FALSE NEIGHBOUR: 'it returns false'. Refute it at one input. -/
def fnSimplifiedWrong : ChangeSpec := { name := "fnSimplified", fn := fun _ => fun
  | [d] => { results := [.lit (.bool false)], args := [d] }
  | _ => none }
def FnSimplifiedWrongFalsely : Prop := fnSimplifiedRow.holds Try.pinned (OpenSpec.ofChange fnSimplifiedWrong)

/- THE SECOND FORM. 'bulk': how many values and letters a reading holds, each counted each time it is reached (what is shared counts as often as it is met; a slice's spare places count too). A statement '..UptoSaid' is the law's where the arguments, and the package variables that the reading takes, are together of bulk at most 1048576: NARROWER than '..Said'. Prove '..Said' where nothing that the law and all that it calls make is longer than what came in: it says more and counts as full. Else prove '..UptoSaid'. A law counts once. -/
mutual
def uptoBulk {H : Type} : DataW H → Nat
  | .lit (.string bytes) => bytes.length + 1
  | .lit _ => 1
  | .nil => 1
  | .ptr d => uptoBulk d + 1
  | .slice elems spare => uptoBulkAll elems + uptoBulkAll spare + 1
  | .agg parts => uptoBulkAll parts + 1
  | .iface _ d => uptoBulk d + 1
  | .map entries => uptoBulkEntries entries + 1
  | .held _ => 1
def uptoBulkAll {H : Type} : List (DataW H) → Nat
  | [] => 0
  | d :: r => uptoBulk d + uptoBulkAll r
def uptoBulkEntries {H : Type} : List (Lit × DataW H) → Nat
  | [] => 0
  | x :: r => uptoBulkEntry x + uptoBulkEntries r
def uptoBulkEntry {H : Type} : Lit × DataW H → Nat
  | (.string bytes, d) => bytes.length + uptoBulk d + 1
  | (_, d) => uptoBulk d + 1
 end
def uptoSmall : (H : Type) → List (DataW H) → Bool := fun _ ds => decide (uptoBulkAll ds ≤ 1048576)
def OpenSpec.upto (s : _root_.Go.ChangeSpec) : _root_.Go.OpenSpec := { _root_.Go.OpenSpec.ofChange s with cond := some uptoSmall }

/-- 'laws.FnExactTimesIn', WHERE WHAT IT READS IS OF BULK AT MOST 1048576: true; the input reads as it did. -/
def fnExactTimesInUptoRow : OpenClaim := { program := "ytjbffpmelglegaa", sum := "c5fa8c56a45d4b5870c6dcaae8babc1db4be683b1f72838515c720e43a8b516e", func := "loop.example/g00941/laws.FnExactTimesIn", spec := "fnExactTimesIn", apart := false, narrowed := true }
def FnExactTimesInUptoSaid : Prop := fnExactTimesInUptoRow.holds Try.pinned (OpenSpec.upto fnExactTimesInSpec)

/-- 'laws.FnExactIsRun', WHERE WHAT IT READS IS OF BULK AT MOST 1048576: true; the input reads as it did. -/
def fnExactIsRunUptoRow : OpenClaim := { program := "ytjbffpmelglegaa", sum := "c5fa8c56a45d4b5870c6dcaae8babc1db4be683b1f72838515c720e43a8b516e", func := "loop.example/g00941/laws.FnExactIsRun", spec := "fnExactIsRun", unfollowed := true, recurses := true, apart := false, narrowed := true }
def FnExactIsRunUptoSaid : Prop := fnExactIsRunUptoRow.holds Try.pinned (OpenSpec.upto fnExactIsRunSpec)

/-- 'laws.FnExactMarkingAfter', WHERE WHAT IT READS IS OF BULK AT MOST 1048576: true; the input reads as it did. -/
def fnExactMarkingAfterUptoRow : OpenClaim := { program := "ytjbffpmelglegaa", sum := "c5fa8c56a45d4b5870c6dcaae8babc1db4be683b1f72838515c720e43a8b516e", func := "loop.example/g00941/laws.FnExactMarkingAfter", spec := "fnExactMarkingAfter", unfollowed := true, recurses := true, apart := false, narrowed := true }
def FnExactMarkingAfterUptoSaid : Prop := fnExactMarkingAfterUptoRow.holds Try.pinned (OpenSpec.upto fnExactMarkingAfterSpec)

/-- 'laws.FnExactLatenessOf', WHERE WHAT IT READS IS OF BULK AT MOST 1048576: true; the input reads as it did. -/
def fnExactLatenessOfUptoRow : OpenClaim := { program := "ytjbffpmelglegaa", sum := "c5fa8c56a45d4b5870c6dcaae8babc1db4be683b1f72838515c720e43a8b516e", func := "loop.example/g00941/laws.FnExactLatenessOf", spec := "fnExactLatenessOf", unfollowed := true, recurses := true, apart := false, narrowed := true }
def FnExactLatenessOfUptoSaid : Prop := fnExactLatenessOfUptoRow.holds Try.pinned (OpenSpec.upto fnExactLatenessOfSpec)

/-- 'laws.FnExactNextEvents', WHERE WHAT IT READS IS OF BULK AT MOST 1048576: true; the input reads as it did. -/
def fnExactNextEventsUptoRow : OpenClaim := { program := "ytjbffpmelglegaa", sum := "c5fa8c56a45d4b5870c6dcaae8babc1db4be683b1f72838515c720e43a8b516e", func := "loop.example/g00941/laws.FnExactNextEvents", spec := "fnExactNextEvents", unfollowed := true, recurses := true, apart := false, narrowed := true }
def FnExactNextEventsUptoSaid : Prop := fnExactNextEventsUptoRow.holds Try.pinned (OpenSpec.upto fnExactNextEventsSpec)

/-- 'laws.FnRuns', WHERE WHAT IT READS IS OF BULK AT MOST 1048576: true; the input reads as it did. -/
def fnRunsUptoRow : OpenClaim := { program := "ytjbffpmelglegaa", sum := "c5fa8c56a45d4b5870c6dcaae8babc1db4be683b1f72838515c720e43a8b516e", func := "loop.example/g00941/laws.FnRuns", spec := "fnRuns", unfollowed := true, recurses := true, apart := false, narrowed := true }
def FnRunsUptoSaid : Prop := fnRunsUptoRow.holds Try.pinned (OpenSpec.upto fnRunsSpec)

/-- 'laws.FnExactStateMatrix', WHERE WHAT IT READS IS OF BULK AT MOST 1048576: true; the input reads as it did. -/
def fnExactStateMatrixUptoRow : OpenClaim := { program := "ytjbffpmelglegaa", sum := "c5fa8c56a45d4b5870c6dcaae8babc1db4be683b1f72838515c720e43a8b516e", func := "loop.example/g00941/laws.FnExactStateMatrix", spec := "fnExactStateMatrix", unfollowed := true, recurses := true, apart := false, narrowed := true }
def FnExactStateMatrixUptoSaid : Prop := fnExactStateMatrixUptoRow.holds Try.pinned (OpenSpec.upto fnExactStateMatrixSpec)

/-- 'laws.FnFirings', WHERE WHAT IT READS IS OF BULK AT MOST 1048576: true; the input reads as it did. -/
def fnFiringsUptoRow : OpenClaim := { program := "ytjbffpmelglegaa", sum := "c5fa8c56a45d4b5870c6dcaae8babc1db4be683b1f72838515c720e43a8b516e", func := "loop.example/g00941/laws.FnFirings", spec := "fnFirings", unfollowed := true, recurses := true, apart := false, narrowed := true }
def FnFiringsUptoSaid : Prop := fnFiringsUptoRow.holds Try.pinned (OpenSpec.upto fnFiringsSpec)

/-- 'laws.FnStarted', WHERE WHAT IT READS IS OF BULK AT MOST 1048576: true; the input reads as it did. -/
def fnStartedUptoRow : OpenClaim := { program := "ytjbffpmelglegaa", sum := "c5fa8c56a45d4b5870c6dcaae8babc1db4be683b1f72838515c720e43a8b516e", func := "loop.example/g00941/laws.FnStarted", spec := "fnStarted", unfollowed := true, recurses := true, apart := false, narrowed := true }
def FnStartedUptoSaid : Prop := fnStartedUptoRow.holds Try.pinned (OpenSpec.upto fnStartedSpec)

/-- 'laws.FnExactSimplifyGraph', WHERE WHAT IT READS IS OF BULK AT MOST 1048576: true; the input reads as it did. -/
def fnExactSimplifyGraphUptoRow : OpenClaim := { program := "ytjbffpmelglegaa", sum := "c5fa8c56a45d4b5870c6dcaae8babc1db4be683b1f72838515c720e43a8b516e", func := "loop.example/g00941/laws.FnExactSimplifyGraph", spec := "fnExactSimplifyGraph", unfollowed := true, recurses := true, apart := false, narrowed := true }
def FnExactSimplifyGraphUptoSaid : Prop := fnExactSimplifyGraphUptoRow.holds Try.pinned (OpenSpec.upto fnExactSimplifyGraphSpec)

/-- 'laws.FnSimplified', WHERE WHAT IT READS IS OF BULK AT MOST 1048576: true; the input reads as it did. -/
def fnSimplifiedUptoRow : OpenClaim := { program := "ytjbffpmelglegaa", sum := "c5fa8c56a45d4b5870c6dcaae8babc1db4be683b1f72838515c720e43a8b516e", func := "loop.example/g00941/laws.FnSimplified", spec := "fnSimplified", unfollowed := true, recurses := true, apart := false, narrowed := true }
def FnSimplifiedUptoSaid : Prop := fnSimplifiedUptoRow.holds Try.pinned (OpenSpec.upto fnSimplifiedSpec)

end Rows
end Go.Proofs.Ytjbffpmelglegaa
