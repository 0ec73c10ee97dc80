/-
  No cell of these rows narrows 'for every input' (looked for: loops, veiled, ifaces, maps, wideKeys, modest, calm, conditions, laid).
  DERIVED. THE GIVEN ROWS OF THIS SEAT. 14 by the template 'for every input the law returns true; each argument reads behind the call as it read before'; 0 by the template 'total and deterministic' (their statements: YtphobmddkphofaaTotals.lean).
  GIVEN WITH THE SEED: the statements are not yours to turn. If you find one false, say at which input.
  Laid BY PROGRAM, IN A SANDBOX (cutbox-rows.mjs): the forced cells as the released guide's own fill.sh prints them over the translation d817384eeddcce25… (all of the seat's roots in one cut). By AI agents, Wed Nov 11 2026. No macro, syntax, notation, axiom, sorry.
-/
import Derived.Test.YtphobmddkphofaaChecked
import GoSem.Claim
import GoSem.ClaimJoined
import GoSem.ClaimMapViews
import Derived.JoinedTies
import Derived.KernelRfl
namespace Go.Proofs.Ytphobmddkphofaa
/- THE CELL 'sum', in the pinned program and in every row, IS THE sha256 OF THE DUMP (.gsa) THAT YtphobmddkphofaaProg.lean LOADS. Nothing in Lean hashes anything: it is a label: what it is worth is what the hold of that sum in a sandbox is worth. -/
noncomputable def Try.pinned : Pinned := { name := "ytphobmddkphofaa", sum := "d817384eeddcce256cf2f570c5f6be8f3519c479098aa0bc45942287df5aeaa2", checked := Try.checked }
namespace Rows
def none {H : Type} : Left H := { results := [], args := [] }

/-- 'laws.FnPlaces': WHATEVER THE INPUT: true; the input reads as it did. -/
def fnPlacesSpec : ChangeSpec := { name := "fnPlaces", fn := fun _ => fun
  | [d] => { results := [.lit (.bool true)], args := [d] }
  | _ => none }
def fnPlacesRow : OpenClaim := { program := "ytphobmddkphofaa", sum := "d817384eeddcce256cf2f570c5f6be8f3519c479098aa0bc45942287df5aeaa2", func := "loop.example/g00941/laws.FnPlaces", spec := "fnPlaces", unfollowed := true, recurses := true, apart := false }
def FnPlacesSaid : Prop := fnPlacesRow.holds Try.pinned (OpenSpec.ofChange fnPlacesSpec)

/-- ITS FALSE NEIGHBOUR: 'it returns false'. Refute it at one input. -/
def fnPlacesWrong : ChangeSpec := { name := "fnPlaces", fn := fun _ => fun
  | [d] => { results := [.lit (.bool false)], args := [d] }
  | _ => none }
def FnPlacesWrongFalsely : Prop := fnPlacesRow.holds Try.pinned (OpenSpec.ofChange fnPlacesWrong)

/-- 'laws.FnSimplified': WHATEVER THE INPUT: true; the input reads as it did. -/
def fnSimplifiedSpec : ChangeSpec := { name := "fnSimplified", fn := fun _ => fun
  | [d] => { results := [.lit (.bool true)], args := [d] }
  | _ => none }
def fnSimplifiedRow : OpenClaim := { program := "ytphobmddkphofaa", sum := "d817384eeddcce256cf2f570c5f6be8f3519c479098aa0bc45942287df5aeaa2", func := "loop.example/g00941/laws.FnSimplified", spec := "fnSimplified", unfollowed := true, recurses := true, apart := false }
def FnSimplifiedSaid : Prop := fnSimplifiedRow.holds Try.pinned (OpenSpec.ofChange fnSimplifiedSpec)

/-- ITS FALSE NEIGHBOUR: 'it returns false'. Refute it at one input. -/
def fnSimplifiedWrong : ChangeSpec := { name := "fnSimplified", fn := fun _ => fun
  | [d] => { results := [.lit (.bool false)], args := [d] }
  | _ => none }
def FnSimplifiedWrongFalsely : Prop := fnSimplifiedRow.holds Try.pinned (OpenSpec.ofChange fnSimplifiedWrong)

/-- 'laws.FnFirings': WHATEVER THE INPUT: true; the input reads as it did. -/
def fnFiringsSpec : ChangeSpec := { name := "fnFirings", fn := fun _ => fun
  | [d] => { results := [.lit (.bool true)], args := [d] }
  | _ => none }
def fnFiringsRow : OpenClaim := { program := "ytphobmddkphofaa", sum := "d817384eeddcce256cf2f570c5f6be8f3519c479098aa0bc45942287df5aeaa2", func := "loop.example/g00941/laws.FnFirings", spec := "fnFirings", unfollowed := true, recurses := true, apart := false }
def FnFiringsSaid : Prop := fnFiringsRow.holds Try.pinned (OpenSpec.ofChange fnFiringsSpec)

/-- ITS FALSE NEIGHBOUR: 'it returns false'. Refute it at one input. -/
def fnFiringsWrong : ChangeSpec := { name := "fnFirings", fn := fun _ => fun
  | [d] => { results := [.lit (.bool false)], args := [d] }
  | _ => none }
def FnFiringsWrongFalsely : Prop := fnFiringsRow.holds Try.pinned (OpenSpec.ofChange fnFiringsWrong)

/-- 'laws.FnStarted': WHATEVER THE INPUT: true; the input reads as it did. -/
def fnStartedSpec : ChangeSpec := { name := "fnStarted", fn := fun _ => fun
  | [d] => { results := [.lit (.bool true)], args := [d] }
  | _ => none }
def fnStartedRow : OpenClaim := { program := "ytphobmddkphofaa", sum := "d817384eeddcce256cf2f570c5f6be8f3519c479098aa0bc45942287df5aeaa2", func := "loop.example/g00941/laws.FnStarted", spec := "fnStarted", unfollowed := true, recurses := true, apart := false }
def FnStartedSaid : Prop := fnStartedRow.holds Try.pinned (OpenSpec.ofChange fnStartedSpec)

/-- ITS FALSE NEIGHBOUR: 'it returns false'. Refute it at one input. -/
def fnStartedWrong : ChangeSpec := { name := "fnStarted", fn := fun _ => fun
  | [d] => { results := [.lit (.bool false)], args := [d] }
  | _ => none }
def FnStartedWrongFalsely : Prop := fnStartedRow.holds Try.pinned (OpenSpec.ofChange fnStartedWrong)

/-- 'laws.FnExactAddPlace': WHATEVER THE INPUT: true; the input reads as it did. -/
def fnExactAddPlaceSpec : ChangeSpec := { name := "fnExactAddPlace", fn := fun _ => fun
  | [d1, d2] => { results := [.lit (.bool true)], args := [d1, d2] }
  | _ => none }
def fnExactAddPlaceRow : OpenClaim := { program := "ytphobmddkphofaa", sum := "d817384eeddcce256cf2f570c5f6be8f3519c479098aa0bc45942287df5aeaa2", func := "loop.example/g00941/laws.FnExactAddPlace", spec := "fnExactAddPlace", unfollowed := true, recurses := true, apart := false }
def FnExactAddPlaceSaid : Prop := fnExactAddPlaceRow.holds Try.pinned (OpenSpec.ofChange fnExactAddPlaceSpec)

/-- ITS FALSE NEIGHBOUR: 'it returns false'. Refute it at one input. -/
def fnExactAddPlaceWrong : ChangeSpec := { name := "fnExactAddPlace", fn := fun _ => fun
  | [d1, d2] => { results := [.lit (.bool false)], args := [d1, d2] }
  | _ => none }
def FnExactAddPlaceWrongFalsely : Prop := fnExactAddPlaceRow.holds Try.pinned (OpenSpec.ofChange fnExactAddPlaceWrong)

/-- 'laws.FnExactSimplifyGraph': WHATEVER THE INPUT: true; the input reads as it did. -/
def fnExactSimplifyGraphSpec : ChangeSpec := { name := "fnExactSimplifyGraph", fn := fun _ => fun
  | [d] => { results := [.lit (.bool true)], args := [d] }
  | _ => none }
def fnExactSimplifyGraphRow : OpenClaim := { program := "ytphobmddkphofaa", sum := "d817384eeddcce256cf2f570c5f6be8f3519c479098aa0bc45942287df5aeaa2", func := "loop.example/g00941/laws.FnExactSimplifyGraph", spec := "fnExactSimplifyGraph", unfollowed := true, recurses := true, apart := false }
def FnExactSimplifyGraphSaid : Prop := fnExactSimplifyGraphRow.holds Try.pinned (OpenSpec.ofChange fnExactSimplifyGraphSpec)

/-- ITS FALSE NEIGHBOUR: 'it returns false'. Refute it at one input. -/
def fnExactSimplifyGraphWrong : ChangeSpec := { name := "fnExactSimplifyGraph", fn := fun _ => fun
  | [d] => { results := [.lit (.bool false)], args := [d] }
  | _ => none }
def FnExactSimplifyGraphWrongFalsely : Prop := fnExactSimplifyGraphRow.holds Try.pinned (OpenSpec.ofChange fnExactSimplifyGraphWrong)

/-- 'laws.FnExactDelayMatrix': WHATEVER THE INPUT: true; the input reads as it did. -/
def fnExactDelayMatrixSpec : ChangeSpec := { name := "fnExactDelayMatrix", fn := fun _ => fun
  | [d1, d2] => { results := [.lit (.bool true)], args := [d1, d2] }
  | _ => none }
def fnExactDelayMatrixRow : OpenClaim := { program := "ytphobmddkphofaa", sum := "d817384eeddcce256cf2f570c5f6be8f3519c479098aa0bc45942287df5aeaa2", func := "loop.example/g00941/laws.FnExactDelayMatrix", spec := "fnExactDelayMatrix", unfollowed := true, recurses := true, apart := false }
def FnExactDelayMatrixSaid : Prop := fnExactDelayMatrixRow.holds Try.pinned (OpenSpec.ofChange fnExactDelayMatrixSpec)

/-- ITS FALSE NEIGHBOUR: 'it returns false'. Refute it at one input. -/
def fnExactDelayMatrixWrong : ChangeSpec := { name := "fnExactDelayMatrix", fn := fun _ => fun
  | [d1, d2] => { results := [.lit (.bool false)], args := [d1, d2] }
  | _ => none }
def FnExactDelayMatrixWrongFalsely : Prop := fnExactDelayMatrixRow.holds Try.pinned (OpenSpec.ofChange fnExactDelayMatrixWrong)

/-- 'laws.FnExactClosedMatrix': WHATEVER THE INPUT: true; the input reads as it did. -/
def fnExactClosedMatrixSpec : ChangeSpec := { name := "fnExactClosedMatrix", fn := fun _ => fun
  | [d1, d2] => { results := [.lit (.bool true)], args := [d1, d2] }
  | _ => none }
def fnExactClosedMatrixRow : OpenClaim := { program := "ytphobmddkphofaa", sum := "d817384eeddcce256cf2f570c5f6be8f3519c479098aa0bc45942287df5aeaa2", func := "loop.example/g00941/laws.FnExactClosedMatrix", spec := "fnExactClosedMatrix", unfollowed := true, recurses := true, apart := false }
def FnExactClosedMatrixSaid : Prop := fnExactClosedMatrixRow.holds Try.pinned (OpenSpec.ofChange fnExactClosedMatrixSpec)

/-- ITS FALSE NEIGHBOUR: 'it returns false'. Refute it at one input. -/
def fnExactClosedMatrixWrong : ChangeSpec := { name := "fnExactClosedMatrix", fn := fun _ => fun
  | [d1, d2] => { results := [.lit (.bool false)], args := [d1, d2] }
  | _ => none }
def FnExactClosedMatrixWrongFalsely : Prop := fnExactClosedMatrixRow.holds Try.pinned (OpenSpec.ofChange fnExactClosedMatrixWrong)

/-- 'laws.FnExactFiringTimes': WHATEVER THE INPUT: true; the input reads as it did. -/
def fnExactFiringTimesSpec : ChangeSpec := { name := "fnExactFiringTimes", fn := fun _ => fun
  | [d1, d2] => { results := [.lit (.bool true)], args := [d1, d2] }
  | _ => none }
def fnExactFiringTimesRow : OpenClaim := { program := "ytphobmddkphofaa", sum := "d817384eeddcce256cf2f570c5f6be8f3519c479098aa0bc45942287df5aeaa2", func := "loop.example/g00941/laws.FnExactFiringTimes", spec := "fnExactFiringTimes", unfollowed := true, recurses := true, apart := false }
def FnExactFiringTimesSaid : Prop := fnExactFiringTimesRow.holds Try.pinned (OpenSpec.ofChange fnExactFiringTimesSpec)

/-- ITS FALSE NEIGHBOUR: 'it returns false'. Refute it at one input. -/
def fnExactFiringTimesWrong : ChangeSpec := { name := "fnExactFiringTimes", fn := fun _ => fun
  | [d1, d2] => { results := [.lit (.bool false)], args := [d1, d2] }
  | _ => none }
def FnExactFiringTimesWrongFalsely : Prop := fnExactFiringTimesRow.holds Try.pinned (OpenSpec.ofChange fnExactFiringTimesWrong)

/-- 'laws.FnExactFiringTime': WHATEVER THE INPUT: true; the input reads as it did. -/
def fnExactFiringTimeSpec : ChangeSpec := { name := "fnExactFiringTime", fn := fun _ => fun
  | [d1, d2, d3] => { results := [.lit (.bool true)], args := [d1, d2, d3] }
  | _ => none }
def fnExactFiringTimeRow : OpenClaim := { program := "ytphobmddkphofaa", sum := "d817384eeddcce256cf2f570c5f6be8f3519c479098aa0bc45942287df5aeaa2", func := "loop.example/g00941/laws.FnExactFiringTime", spec := "fnExactFiringTime", unfollowed := true, recurses := true, apart := false }
def FnExactFiringTimeSaid : Prop := fnExactFiringTimeRow.holds Try.pinned (OpenSpec.ofChange fnExactFiringTimeSpec)

/-- ITS FALSE NEIGHBOUR: 'it returns false'. Refute it at one input. -/
def fnExactFiringTimeWrong : ChangeSpec := { name := "fnExactFiringTime", fn := fun _ => fun
  | [d1, d2, d3] => { results := [.lit (.bool false)], args := [d1, d2, d3] }
  | _ => none }
def FnExactFiringTimeWrongFalsely : Prop := fnExactFiringTimeRow.holds Try.pinned (OpenSpec.ofChange fnExactFiringTimeWrong)

/-- 'laws.FnExactStartedTimes': WHATEVER THE INPUT: true; the input reads as it did. -/
def fnExactStartedTimesSpec : ChangeSpec := { name := "fnExactStartedTimes", fn := fun _ => fun
  | [d1, d2, d3] => { results := [.lit (.bool true)], args := [d1, d2, d3] }
  | _ => none }
def fnExactStartedTimesRow : OpenClaim := { program := "ytphobmddkphofaa", sum := "d817384eeddcce256cf2f570c5f6be8f3519c479098aa0bc45942287df5aeaa2", func := "loop.example/g00941/laws.FnExactStartedTimes", spec := "fnExactStartedTimes", unfollowed := true, recurses := true, apart := false }
def FnExactStartedTimesSaid : Prop := fnExactStartedTimesRow.holds Try.pinned (OpenSpec.ofChange fnExactStartedTimesSpec)

/-- ITS FALSE NEIGHBOUR: 'it returns false'. Refute it at one input. -/
def fnExactStartedTimesWrong : ChangeSpec := { name := "fnExactStartedTimes", fn := fun _ => fun
  | [d1, d2, d3] => { results := [.lit (.bool false)], args := [d1, d2, d3] }
  | _ => none }
def FnExactStartedTimesWrongFalsely : Prop := fnExactStartedTimesRow.holds Try.pinned (OpenSpec.ofChange fnExactStartedTimesWrong)

/-- 'laws.FnExactStateMatrix': WHATEVER THE INPUT: true; the input reads as it did. -/
def fnExactStateMatrixSpec : ChangeSpec := { name := "fnExactStateMatrix", fn := fun _ => fun
  | [d] => { results := [.lit (.bool true)], args := [d] }
  | _ => none }
def fnExactStateMatrixRow : OpenClaim := { program := "ytphobmddkphofaa", sum := "d817384eeddcce256cf2f570c5f6be8f3519c479098aa0bc45942287df5aeaa2", func := "loop.example/g00941/laws.FnExactStateMatrix", spec := "fnExactStateMatrix", unfollowed := true, recurses := true, apart := false }
def FnExactStateMatrixSaid : Prop := fnExactStateMatrixRow.holds Try.pinned (OpenSpec.ofChange fnExactStateMatrixSpec)

/-- ITS FALSE NEIGHBOUR: 'it returns false'. Refute it at one input. -/
def fnExactStateMatrixWrong : ChangeSpec := { name := "fnExactStateMatrix", fn := fun _ => fun
  | [d] => { results := [.lit (.bool false)], args := [d] }
  | _ => none }
def FnExactStateMatrixWrongFalsely : Prop := fnExactStateMatrixRow.holds Try.pinned (OpenSpec.ofChange fnExactStateMatrixWrong)

/-- 'laws.FnExactIsFiringTable': WHATEVER THE INPUT: true; the input reads as it did. -/
def fnExactIsFiringTableSpec : ChangeSpec := { name := "fnExactIsFiringTable", fn := fun _ => fun
  | [d1, d2] => { results := [.lit (.bool true)], args := [d1, d2] }
  | _ => none }
def fnExactIsFiringTableRow : OpenClaim := { program := "ytphobmddkphofaa", sum := "d817384eeddcce256cf2f570c5f6be8f3519c479098aa0bc45942287df5aeaa2", func := "loop.example/g00941/laws.FnExactIsFiringTable", spec := "fnExactIsFiringTable", unfollowed := true, recurses := true, apart := false }
def FnExactIsFiringTableSaid : Prop := fnExactIsFiringTableRow.holds Try.pinned (OpenSpec.ofChange fnExactIsFiringTableSpec)

/-- ITS FALSE NEIGHBOUR: 'it returns false'. Refute it at one input. -/
def fnExactIsFiringTableWrong : ChangeSpec := { name := "fnExactIsFiringTable", fn := fun _ => fun
  | [d1, d2] => { results := [.lit (.bool false)], args := [d1, d2] }
  | _ => none }
def FnExactIsFiringTableWrongFalsely : Prop := fnExactIsFiringTableRow.holds Try.pinned (OpenSpec.ofChange fnExactIsFiringTableWrong)

/-- 'laws.FnExactHoldingOf': WHATEVER THE INPUT: true; the input reads as it did. -/
def fnExactHoldingOfSpec : ChangeSpec := { name := "fnExactHoldingOf", fn := fun _ => fun
  | [d1, d2] => { results := [.lit (.bool true)], args := [d1, d2] }
  | _ => none }
def fnExactHoldingOfRow : OpenClaim := { program := "ytphobmddkphofaa", sum := "d817384eeddcce256cf2f570c5f6be8f3519c479098aa0bc45942287df5aeaa2", func := "loop.example/g00941/laws.FnExactHoldingOf", spec := "fnExactHoldingOf", unfollowed := true, recurses := true, apart := false }
def FnExactHoldingOfSaid : Prop := fnExactHoldingOfRow.holds Try.pinned (OpenSpec.ofChange fnExactHoldingOfSpec)

/-- ITS FALSE NEIGHBOUR: 'it returns false'. Refute it at one input. -/
def fnExactHoldingOfWrong : ChangeSpec := { name := "fnExactHoldingOf", fn := fun _ => fun
  | [d1, d2] => { results := [.lit (.bool false)], args := [d1, d2] }
  | _ => none }
def FnExactHoldingOfWrongFalsely : Prop := fnExactHoldingOfRow.holds Try.pinned (OpenSpec.ofChange fnExactHoldingOfWrong)

/- THE SECOND FORM. 'bulk': how many values and letters a reading holds, each counted each time it is reached (what is shared counts as often as it is met; a slice's spare places count too). A statement '..UptoSaid' is the law's where the arguments, and the package variables that the reading takes, are together of bulk at most 1048576: NARROWER than '..Said'. Prove '..Said' where nothing that the law and all that it calls make is longer than what came in: it says more and counts as full. Else prove '..UptoSaid'. A law counts once. -/
mutual
def uptoBulk {H : Type} : DataW H → Nat
  | .lit (.string bytes) => bytes.length + 1
  | .lit _ => 1
  | .nil => 1
  | .ptr d => uptoBulk d + 1
  | .slice elems spare => uptoBulkAll elems + uptoBulkAll spare + 1
  | .agg parts => uptoBulkAll parts + 1
  | .iface _ d => uptoBulk d + 1
  | .map entries => uptoBulkEntries entries + 1
  | .held _ => 1
def uptoBulkAll {H : Type} : List (DataW H) → Nat
  | [] => 0
  | d :: r => uptoBulk d + uptoBulkAll r
def uptoBulkEntries {H : Type} : List (Lit × DataW H) → Nat
  | [] => 0
  | x :: r => uptoBulkEntry x + uptoBulkEntries r
def uptoBulkEntry {H : Type} : Lit × DataW H → Nat
  | (.string bytes, d) => bytes.length + uptoBulk d + 1
  | (_, d) => uptoBulk d + 1
 end
def uptoSmall : (H : Type) → List (DataW H) → Bool := fun _ ds => decide (uptoBulkAll ds ≤ 1048576)
def OpenSpec.upto (s : _root_.Go.ChangeSpec) : _root_.Go.OpenSpec := { _root_.Go.OpenSpec.ofChange s with cond := some uptoSmall }

/-- 'laws.FnPlaces', WHERE WHAT IT READS IS OF BULK AT MOST 1048576: true; the input reads as it did. -/
def fnPlacesUptoRow : OpenClaim := { program := "ytphobmddkphofaa", sum := "d817384eeddcce256cf2f570c5f6be8f3519c479098aa0bc45942287df5aeaa2", func := "loop.example/g00941/laws.FnPlaces", spec := "fnPlaces", unfollowed := true, recurses := true, apart := false, narrowed := true }
def FnPlacesUptoSaid : Prop := fnPlacesUptoRow.holds Try.pinned (OpenSpec.upto fnPlacesSpec)

/-- 'laws.FnSimplified', WHERE WHAT IT READS IS OF BULK AT MOST 1048576: true; the input reads as it did. -/
def fnSimplifiedUptoRow : OpenClaim := { program := "ytphobmddkphofaa", sum := "d817384eeddcce256cf2f570c5f6be8f3519c479098aa0bc45942287df5aeaa2", func := "loop.example/g00941/laws.FnSimplified", spec := "fnSimplified", unfollowed := true, recurses := true, apart := false, narrowed := true }
def FnSimplifiedUptoSaid : Prop := fnSimplifiedUptoRow.holds Try.pinned (OpenSpec.upto fnSimplifiedSpec)

/-- 'laws.FnFirings', WHERE WHAT IT READS IS OF BULK AT MOST 1048576: true; the input reads as it did. -/
def fnFiringsUptoRow : OpenClaim := { program := "ytphobmddkphofaa", sum := "d817384eeddcce256cf2f570c5f6be8f3519c479098aa0bc45942287df5aeaa2", func := "loop.example/g00941/laws.FnFirings", spec := "fnFirings", unfollowed := true, recurses := true, apart := false, narrowed := true }
def FnFiringsUptoSaid : Prop := fnFiringsUptoRow.holds Try.pinned (OpenSpec.upto fnFiringsSpec)

/-- 'laws.FnStarted', WHERE WHAT IT READS IS OF BULK AT MOST 1048576: true; the input reads as it did. -/
def fnStartedUptoRow : OpenClaim := { program := "ytphobmddkphofaa", sum := "d817384eeddcce256cf2f570c5f6be8f3519c479098aa0bc45942287df5aeaa2", func := "loop.example/g00941/laws.FnStarted", spec := "fnStarted", unfollowed := true, recurses := true, apart := false, narrowed := true }
def FnStartedUptoSaid : Prop := fnStartedUptoRow.holds Try.pinned (OpenSpec.upto fnStartedSpec)

/-- 'laws.FnExactAddPlace', WHERE WHAT IT READS IS OF BULK AT MOST 1048576: true; the input reads as it did. -/
def fnExactAddPlaceUptoRow : OpenClaim := { program := "ytphobmddkphofaa", sum := "d817384eeddcce256cf2f570c5f6be8f3519c479098aa0bc45942287df5aeaa2", func := "loop.example/g00941/laws.FnExactAddPlace", spec := "fnExactAddPlace", unfollowed := true, recurses := true, apart := false, narrowed := true }
def FnExactAddPlaceUptoSaid : Prop := fnExactAddPlaceUptoRow.holds Try.pinned (OpenSpec.upto fnExactAddPlaceSpec)

/-- 'laws.FnExactSimplifyGraph', WHERE WHAT IT READS IS OF BULK AT MOST 1048576: true; the input reads as it did. -/
def fnExactSimplifyGraphUptoRow : OpenClaim := { program := "ytphobmddkphofaa", sum := "d817384eeddcce256cf2f570c5f6be8f3519c479098aa0bc45942287df5aeaa2", func := "loop.example/g00941/laws.FnExactSimplifyGraph", spec := "fnExactSimplifyGraph", unfollowed := true, recurses := true, apart := false, narrowed := true }
def FnExactSimplifyGraphUptoSaid : Prop := fnExactSimplifyGraphUptoRow.holds Try.pinned (OpenSpec.upto fnExactSimplifyGraphSpec)

/-- 'laws.FnExactDelayMatrix', WHERE WHAT IT READS IS OF BULK AT MOST 1048576: true; the input reads as it did. -/
def fnExactDelayMatrixUptoRow : OpenClaim := { program := "ytphobmddkphofaa", sum := "d817384eeddcce256cf2f570c5f6be8f3519c479098aa0bc45942287df5aeaa2", func := "loop.example/g00941/laws.FnExactDelayMatrix", spec := "fnExactDelayMatrix", unfollowed := true, recurses := true, apart := false, narrowed := true }
def FnExactDelayMatrixUptoSaid : Prop := fnExactDelayMatrixUptoRow.holds Try.pinned (OpenSpec.upto fnExactDelayMatrixSpec)

/-- 'laws.FnExactClosedMatrix', WHERE WHAT IT READS IS OF BULK AT MOST 1048576: true; the input reads as it did. -/
def fnExactClosedMatrixUptoRow : OpenClaim := { program := "ytphobmddkphofaa", sum := "d817384eeddcce256cf2f570c5f6be8f3519c479098aa0bc45942287df5aeaa2", func := "loop.example/g00941/laws.FnExactClosedMatrix", spec := "fnExactClosedMatrix", unfollowed := true, recurses := true, apart := false, narrowed := true }
def FnExactClosedMatrixUptoSaid : Prop := fnExactClosedMatrixUptoRow.holds Try.pinned (OpenSpec.upto fnExactClosedMatrixSpec)

/-- 'laws.FnExactFiringTimes', WHERE WHAT IT READS IS OF BULK AT MOST 1048576: true; the input reads as it did. -/
def fnExactFiringTimesUptoRow : OpenClaim := { program := "ytphobmddkphofaa", sum := "d817384eeddcce256cf2f570c5f6be8f3519c479098aa0bc45942287df5aeaa2", func := "loop.example/g00941/laws.FnExactFiringTimes", spec := "fnExactFiringTimes", unfollowed := true, recurses := true, apart := false, narrowed := true }
def FnExactFiringTimesUptoSaid : Prop := fnExactFiringTimesUptoRow.holds Try.pinned (OpenSpec.upto fnExactFiringTimesSpec)

/-- 'laws.FnExactFiringTime', WHERE WHAT IT READS IS OF BULK AT MOST 1048576: true; the input reads as it did. -/
def fnExactFiringTimeUptoRow : OpenClaim := { program := "ytphobmddkphofaa", sum := "d817384eeddcce256cf2f570c5f6be8f3519c479098aa0bc45942287df5aeaa2", func := "loop.example/g00941/laws.FnExactFiringTime", spec := "fnExactFiringTime", unfollowed := true, recurses := true, apart := false, narrowed := true }
def FnExactFiringTimeUptoSaid : Prop := fnExactFiringTimeUptoRow.holds Try.pinned (OpenSpec.upto fnExactFiringTimeSpec)

/-- 'laws.FnExactStartedTimes', WHERE WHAT IT READS IS OF BULK AT MOST 1048576: true; the input reads as it did. -/
def fnExactStartedTimesUptoRow : OpenClaim := { program := "ytphobmddkphofaa", sum := "d817384eeddcce256cf2f570c5f6be8f3519c479098aa0bc45942287df5aeaa2", func := "loop.example/g00941/laws.FnExactStartedTimes", spec := "fnExactStartedTimes", unfollowed := true, recurses := true, apart := false, narrowed := true }
def FnExactStartedTimesUptoSaid : Prop := fnExactStartedTimesUptoRow.holds Try.pinned (OpenSpec.upto fnExactStartedTimesSpec)

/-- 'laws.FnExactStateMatrix', WHERE WHAT IT READS IS OF BULK AT MOST 1048576: true; the input reads as it did. -/
def fnExactStateMatrixUptoRow : OpenClaim := { program := "ytphobmddkphofaa", sum := "d817384eeddcce256cf2f570c5f6be8f3519c479098aa0bc45942287df5aeaa2", func := "loop.example/g00941/laws.FnExactStateMatrix", spec := "fnExactStateMatrix", unfollowed := true, recurses := true, apart := false, narrowed := true }
def FnExactStateMatrixUptoSaid : Prop := fnExactStateMatrixUptoRow.holds Try.pinned (OpenSpec.upto fnExactStateMatrixSpec)

/-- 'laws.FnExactIsFiringTable', WHERE WHAT IT READS IS OF BULK AT MOST 1048576: true; the input reads as it did. -/
def fnExactIsFiringTableUptoRow : OpenClaim := { program := "ytphobmddkphofaa", sum := "d817384eeddcce256cf2f570c5f6be8f3519c479098aa0bc45942287df5aeaa2", func := "loop.example/g00941/laws.FnExactIsFiringTable", spec := "fnExactIsFiringTable", unfollowed := true, recurses := true, apart := false, narrowed := true }
def FnExactIsFiringTableUptoSaid : Prop := fnExactIsFiringTableUptoRow.holds Try.pinned (OpenSpec.upto fnExactIsFiringTableSpec)

/-- 'laws.FnExactHoldingOf', WHERE WHAT IT READS IS OF BULK AT MOST 1048576: true; the input reads as it did. -/
def fnExactHoldingOfUptoRow : OpenClaim := { program := "ytphobmddkphofaa", sum := "d817384eeddcce256cf2f570c5f6be8f3519c479098aa0bc45942287df5aeaa2", func := "loop.example/g00941/laws.FnExactHoldingOf", spec := "fnExactHoldingOf", unfollowed := true, recurses := true, apart := false, narrowed := true }
def FnExactHoldingOfUptoSaid : Prop := fnExactHoldingOfUptoRow.holds Try.pinned (OpenSpec.upto fnExactHoldingOfSpec)

end Rows
end Go.Proofs.Ytphobmddkphofaa
