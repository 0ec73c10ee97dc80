/-
  No cell of these rows narrows 'for every input' (looked for: loops, veiled, ifaces, maps, wideKeys, modest, calm, conditions, laid).
  DERIVED. THE GIVEN ROWS OF THIS SEAT. 12 by the template 'for every input the law returns true; each argument reads behind the call as it read before'; 0 by the template 'total and deterministic' (their statements: YtobdgboejbbfiaaTotals.lean).
  GIVEN WITH THE SEED: the statements are not yours to turn. If you find one false, say at which input.
  Laid BY PROGRAM, IN A SANDBOX (cutbox-rows.mjs): the forced cells as the released guide's own fill.sh prints them over the translation 9663514ad954b3e8… (all of the seat's roots in one cut). By AI agents, Wed Nov 11 2026. No macro, syntax, notation, axiom, sorry.
-/
import Derived.Test.YtobdgboejbbfiaaChecked
import GoSem.Claim
import GoSem.ClaimJoined
import GoSem.ClaimMapViews
import Derived.JoinedTies
import Derived.KernelRfl
namespace Go.Proofs.Ytobdgboejbbfiaa
/- THE CELL 'sum', in the pinned program and in every row, IS THE sha256 OF THE DUMP (.gsa) THAT YtobdgboejbbfiaaProg.lean LOADS. Nothing in Lean hashes anything: it is a label: what it is worth is what the hold of that sum in a sandbox is worth. -/
noncomputable def Try.pinned : Pinned := { name := "ytobdgboejbbfiaa", sum := "9663514ad954b3e8b78c777547ddbb308a961a586a5b9c60e917982cd7d7aabf", checked := Try.checked }
namespace Rows
def none {H : Type} : Left H := { results := [], args := [] }

/-- 'laws.FnOrders': WHATEVER THE INPUT: true; the input reads as it did. -/
def fnOrdersSpec : ChangeSpec := { name := "fnOrders", fn := fun _ => fun
  | [d] => { results := [.lit (.bool true)], args := [d] }
  | _ => none }
def fnOrdersRow : OpenClaim := { program := "ytobdgboejbbfiaa", sum := "9663514ad954b3e8b78c777547ddbb308a961a586a5b9c60e917982cd7d7aabf", func := "loop.example/g00941/laws.FnOrders", spec := "fnOrders", unfollowed := true, recurses := true, apart := false }
def FnOrdersSaid : Prop := fnOrdersRow.holds Try.pinned (OpenSpec.ofChange fnOrdersSpec)

/-- ITS FALSE NEIGHBOUR: 'it returns false'. Refute it at one input. -/
def fnOrdersWrong : ChangeSpec := { name := "fnOrders", fn := fun _ => fun
  | [d] => { results := [.lit (.bool false)], args := [d] }
  | _ => none }
def FnOrdersWrongFalsely : Prop := fnOrdersRow.holds Try.pinned (OpenSpec.ofChange fnOrdersWrong)

/-- 'laws.FnExactIsLive': WHATEVER THE INPUT: true; the input reads as it did. -/
def fnExactIsLiveSpec : ChangeSpec := { name := "fnExactIsLive", fn := fun _ => fun
  | [d] => { results := [.lit (.bool true)], args := [d] }
  | _ => none }
def fnExactIsLiveRow : OpenClaim := { program := "ytobdgboejbbfiaa", sum := "9663514ad954b3e8b78c777547ddbb308a961a586a5b9c60e917982cd7d7aabf", func := "loop.example/g00941/laws.FnExactIsLive", spec := "fnExactIsLive", unfollowed := true, recurses := true, apart := false }
def FnExactIsLiveSaid : Prop := fnExactIsLiveRow.holds Try.pinned (OpenSpec.ofChange fnExactIsLiveSpec)

/-- ITS FALSE NEIGHBOUR: 'it returns false'. Refute it at one input. -/
def fnExactIsLiveWrong : ChangeSpec := { name := "fnExactIsLive", fn := fun _ => fun
  | [d] => { results := [.lit (.bool false)], args := [d] }
  | _ => none }
def FnExactIsLiveWrongFalsely : Prop := fnExactIsLiveRow.holds Try.pinned (OpenSpec.ofChange fnExactIsLiveWrong)

/-- 'laws.FnExactDeadCycle': WHATEVER THE INPUT: true; the input reads as it did. -/
def fnExactDeadCycleSpec : ChangeSpec := { name := "fnExactDeadCycle", fn := fun _ => fun
  | [d] => { results := [.lit (.bool true)], args := [d] }
  | _ => none }
def fnExactDeadCycleRow : OpenClaim := { program := "ytobdgboejbbfiaa", sum := "9663514ad954b3e8b78c777547ddbb308a961a586a5b9c60e917982cd7d7aabf", func := "loop.example/g00941/laws.FnExactDeadCycle", spec := "fnExactDeadCycle", unfollowed := true, recurses := true, apart := false }
def FnExactDeadCycleSaid : Prop := fnExactDeadCycleRow.holds Try.pinned (OpenSpec.ofChange fnExactDeadCycleSpec)

/-- ITS FALSE NEIGHBOUR: 'it returns false'. Refute it at one input. -/
def fnExactDeadCycleWrong : ChangeSpec := { name := "fnExactDeadCycle", fn := fun _ => fun
  | [d] => { results := [.lit (.bool false)], args := [d] }
  | _ => none }
def FnExactDeadCycleWrongFalsely : Prop := fnExactDeadCycleRow.holds Try.pinned (OpenSpec.ofChange fnExactDeadCycleWrong)

/-- 'laws.FnExactFiringOrder': WHATEVER THE INPUT: true; the input reads as it did. -/
def fnExactFiringOrderSpec : ChangeSpec := { name := "fnExactFiringOrder", fn := fun _ => fun
  | [d] => { results := [.lit (.bool true)], args := [d] }
  | _ => none }
def fnExactFiringOrderRow : OpenClaim := { program := "ytobdgboejbbfiaa", sum := "9663514ad954b3e8b78c777547ddbb308a961a586a5b9c60e917982cd7d7aabf", func := "loop.example/g00941/laws.FnExactFiringOrder", spec := "fnExactFiringOrder", unfollowed := true, recurses := true, apart := false }
def FnExactFiringOrderSaid : Prop := fnExactFiringOrderRow.holds Try.pinned (OpenSpec.ofChange fnExactFiringOrderSpec)

/-- ITS FALSE NEIGHBOUR: 'it returns false'. Refute it at one input. -/
def fnExactFiringOrderWrong : ChangeSpec := { name := "fnExactFiringOrder", fn := fun _ => fun
  | [d] => { results := [.lit (.bool false)], args := [d] }
  | _ => none }
def FnExactFiringOrderWrongFalsely : Prop := fnExactFiringOrderRow.holds Try.pinned (OpenSpec.ofChange fnExactFiringOrderWrong)

/-- 'laws.FnExactLevelsOf': WHATEVER THE INPUT: true; the input reads as it did. -/
def fnExactLevelsOfSpec : ChangeSpec := { name := "fnExactLevelsOf", fn := fun _ => fun
  | [d] => { results := [.lit (.bool true)], args := [d] }
  | _ => none }
def fnExactLevelsOfRow : OpenClaim := { program := "ytobdgboejbbfiaa", sum := "9663514ad954b3e8b78c777547ddbb308a961a586a5b9c60e917982cd7d7aabf", func := "loop.example/g00941/laws.FnExactLevelsOf", spec := "fnExactLevelsOf", unfollowed := true, recurses := true, apart := false }
def FnExactLevelsOfSaid : Prop := fnExactLevelsOfRow.holds Try.pinned (OpenSpec.ofChange fnExactLevelsOfSpec)

/-- ITS FALSE NEIGHBOUR: 'it returns false'. Refute it at one input. -/
def fnExactLevelsOfWrong : ChangeSpec := { name := "fnExactLevelsOf", fn := fun _ => fun
  | [d] => { results := [.lit (.bool false)], args := [d] }
  | _ => none }
def FnExactLevelsOfWrongFalsely : Prop := fnExactLevelsOfRow.holds Try.pinned (OpenSpec.ofChange fnExactLevelsOfWrong)

/-- 'laws.FnExactSourcesOf': WHATEVER THE INPUT: true; the input reads as it did. -/
def fnExactSourcesOfSpec : ChangeSpec := { name := "fnExactSourcesOf", fn := fun _ => fun
  | [d] => { results := [.lit (.bool true)], args := [d] }
  | _ => none }
def fnExactSourcesOfRow : OpenClaim := { program := "ytobdgboejbbfiaa", sum := "9663514ad954b3e8b78c777547ddbb308a961a586a5b9c60e917982cd7d7aabf", func := "loop.example/g00941/laws.FnExactSourcesOf", spec := "fnExactSourcesOf", unfollowed := true, recurses := true, apart := false }
def FnExactSourcesOfSaid : Prop := fnExactSourcesOfRow.holds Try.pinned (OpenSpec.ofChange fnExactSourcesOfSpec)

/-- ITS FALSE NEIGHBOUR: 'it returns false'. Refute it at one input. -/
def fnExactSourcesOfWrong : ChangeSpec := { name := "fnExactSourcesOf", fn := fun _ => fun
  | [d] => { results := [.lit (.bool false)], args := [d] }
  | _ => none }
def FnExactSourcesOfWrongFalsely : Prop := fnExactSourcesOfRow.holds Try.pinned (OpenSpec.ofChange fnExactSourcesOfWrong)

/-- 'laws.FnExactIsStrong': WHATEVER THE INPUT: true; the input reads as it did. -/
def fnExactIsStrongSpec : ChangeSpec := { name := "fnExactIsStrong", fn := fun _ => fun
  | [d] => { results := [.lit (.bool true)], args := [d] }
  | _ => none }
def fnExactIsStrongRow : OpenClaim := { program := "ytobdgboejbbfiaa", sum := "9663514ad954b3e8b78c777547ddbb308a961a586a5b9c60e917982cd7d7aabf", func := "loop.example/g00941/laws.FnExactIsStrong", spec := "fnExactIsStrong", unfollowed := true, recurses := true, apart := false }
def FnExactIsStrongSaid : Prop := fnExactIsStrongRow.holds Try.pinned (OpenSpec.ofChange fnExactIsStrongSpec)

/-- ITS FALSE NEIGHBOUR: 'it returns false'. Refute it at one input. -/
def fnExactIsStrongWrong : ChangeSpec := { name := "fnExactIsStrong", fn := fun _ => fun
  | [d] => { results := [.lit (.bool false)], args := [d] }
  | _ => none }
def FnExactIsStrongWrongFalsely : Prop := fnExactIsStrongRow.holds Try.pinned (OpenSpec.ofChange fnExactIsStrongWrong)

/-- 'laws.FnExactTokenDistance': WHATEVER THE INPUT: true; the input reads as it did. -/
def fnExactTokenDistanceSpec : ChangeSpec := { name := "fnExactTokenDistance", fn := fun _ => fun
  | [d1, d2, d3] => { results := [.lit (.bool true)], args := [d1, d2, d3] }
  | _ => none }
def fnExactTokenDistanceRow : OpenClaim := { program := "ytobdgboejbbfiaa", sum := "9663514ad954b3e8b78c777547ddbb308a961a586a5b9c60e917982cd7d7aabf", func := "loop.example/g00941/laws.FnExactTokenDistance", spec := "fnExactTokenDistance", unfollowed := true, recurses := true, apart := false }
def FnExactTokenDistanceSaid : Prop := fnExactTokenDistanceRow.holds Try.pinned (OpenSpec.ofChange fnExactTokenDistanceSpec)

/-- ITS FALSE NEIGHBOUR: 'it returns false'. Refute it at one input. -/
def fnExactTokenDistanceWrong : ChangeSpec := { name := "fnExactTokenDistance", fn := fun _ => fun
  | [d1, d2, d3] => { results := [.lit (.bool false)], args := [d1, d2, d3] }
  | _ => none }
def FnExactTokenDistanceWrongFalsely : Prop := fnExactTokenDistanceRow.holds Try.pinned (OpenSpec.ofChange fnExactTokenDistanceWrong)

/-- 'laws.FnExactTokenBound': WHATEVER THE INPUT: true; the input reads as it did. -/
def fnExactTokenBoundSpec : ChangeSpec := { name := "fnExactTokenBound", fn := fun _ => fun
  | [d1, d2] => { results := [.lit (.bool true)], args := [d1, d2] }
  | _ => none }
def fnExactTokenBoundRow : OpenClaim := { program := "ytobdgboejbbfiaa", sum := "9663514ad954b3e8b78c777547ddbb308a961a586a5b9c60e917982cd7d7aabf", func := "loop.example/g00941/laws.FnExactTokenBound", spec := "fnExactTokenBound", unfollowed := true, recurses := true, apart := false }
def FnExactTokenBoundSaid : Prop := fnExactTokenBoundRow.holds Try.pinned (OpenSpec.ofChange fnExactTokenBoundSpec)

/-- ITS FALSE NEIGHBOUR: 'it returns false'. Refute it at one input. -/
def fnExactTokenBoundWrong : ChangeSpec := { name := "fnExactTokenBound", fn := fun _ => fun
  | [d1, d2] => { results := [.lit (.bool false)], args := [d1, d2] }
  | _ => none }
def FnExactTokenBoundWrongFalsely : Prop := fnExactTokenBoundRow.holds Try.pinned (OpenSpec.ofChange fnExactTokenBoundWrong)

/-- 'laws.FnPlaces': WHATEVER THE INPUT: true; the input reads as it did. -/
def fnPlacesSpec : ChangeSpec := { name := "fnPlaces", fn := fun _ => fun
  | [d] => { results := [.lit (.bool true)], args := [d] }
  | _ => none }
def fnPlacesRow : OpenClaim := { program := "ytobdgboejbbfiaa", sum := "9663514ad954b3e8b78c777547ddbb308a961a586a5b9c60e917982cd7d7aabf", func := "loop.example/g00941/laws.FnPlaces", spec := "fnPlaces", unfollowed := true, recurses := true, apart := false }
def FnPlacesSaid : Prop := fnPlacesRow.holds Try.pinned (OpenSpec.ofChange fnPlacesSpec)

/-- ITS FALSE NEIGHBOUR: 'it returns false'. Refute it at one input. -/
def fnPlacesWrong : ChangeSpec := { name := "fnPlaces", fn := fun _ => fun
  | [d] => { results := [.lit (.bool false)], args := [d] }
  | _ => none }
def FnPlacesWrongFalsely : Prop := fnPlacesRow.holds Try.pinned (OpenSpec.ofChange fnPlacesWrong)

/-- 'laws.FnExactAddPlace': WHATEVER THE INPUT: true; the input reads as it did. -/
def fnExactAddPlaceSpec : ChangeSpec := { name := "fnExactAddPlace", fn := fun _ => fun
  | [d1, d2] => { results := [.lit (.bool true)], args := [d1, d2] }
  | _ => none }
def fnExactAddPlaceRow : OpenClaim := { program := "ytobdgboejbbfiaa", sum := "9663514ad954b3e8b78c777547ddbb308a961a586a5b9c60e917982cd7d7aabf", func := "loop.example/g00941/laws.FnExactAddPlace", spec := "fnExactAddPlace", unfollowed := true, recurses := true, apart := false }
def FnExactAddPlaceSaid : Prop := fnExactAddPlaceRow.holds Try.pinned (OpenSpec.ofChange fnExactAddPlaceSpec)

/-- ITS FALSE NEIGHBOUR: 'it returns false'. Refute it at one input. -/
def fnExactAddPlaceWrong : ChangeSpec := { name := "fnExactAddPlace", fn := fun _ => fun
  | [d1, d2] => { results := [.lit (.bool false)], args := [d1, d2] }
  | _ => none }
def FnExactAddPlaceWrongFalsely : Prop := fnExactAddPlaceRow.holds Try.pinned (OpenSpec.ofChange fnExactAddPlaceWrong)

/-- 'laws.FnExactSimplifyGraph': WHATEVER THE INPUT: true; the input reads as it did. -/
def fnExactSimplifyGraphSpec : ChangeSpec := { name := "fnExactSimplifyGraph", fn := fun _ => fun
  | [d] => { results := [.lit (.bool true)], args := [d] }
  | _ => none }
def fnExactSimplifyGraphRow : OpenClaim := { program := "ytobdgboejbbfiaa", sum := "9663514ad954b3e8b78c777547ddbb308a961a586a5b9c60e917982cd7d7aabf", func := "loop.example/g00941/laws.FnExactSimplifyGraph", spec := "fnExactSimplifyGraph", unfollowed := true, recurses := true, apart := false }
def FnExactSimplifyGraphSaid : Prop := fnExactSimplifyGraphRow.holds Try.pinned (OpenSpec.ofChange fnExactSimplifyGraphSpec)

/-- ITS FALSE NEIGHBOUR: 'it returns false'. Refute it at one input. -/
def fnExactSimplifyGraphWrong : ChangeSpec := { name := "fnExactSimplifyGraph", fn := fun _ => fun
  | [d] => { results := [.lit (.bool false)], args := [d] }
  | _ => none }
def FnExactSimplifyGraphWrongFalsely : Prop := fnExactSimplifyGraphRow.holds Try.pinned (OpenSpec.ofChange fnExactSimplifyGraphWrong)

/- THE SECOND FORM. 'bulk': how many values and letters a reading holds, each counted each time it is reached (what is shared counts as often as it is met; a slice's spare places count too). A statement '..UptoSaid' is the law's where the arguments, and the package variables that the reading takes, are together of bulk at most 1048576: NARROWER than '..Said'. Prove '..Said' where nothing that the law and all that it calls make is longer than what came in: it says more and counts as full. Else prove '..UptoSaid'. A law counts once. -/
mutual
def uptoBulk {H : Type} : DataW H → Nat
  | .lit (.string bytes) => bytes.length + 1
  | .lit _ => 1
  | .nil => 1
  | .ptr d => uptoBulk d + 1
  | .slice elems spare => uptoBulkAll elems + uptoBulkAll spare + 1
  | .agg parts => uptoBulkAll parts + 1
  | .iface _ d => uptoBulk d + 1
  | .map entries => uptoBulkEntries entries + 1
  | .held _ => 1
def uptoBulkAll {H : Type} : List (DataW H) → Nat
  | [] => 0
  | d :: r => uptoBulk d + uptoBulkAll r
def uptoBulkEntries {H : Type} : List (Lit × DataW H) → Nat
  | [] => 0
  | x :: r => uptoBulkEntry x + uptoBulkEntries r
def uptoBulkEntry {H : Type} : Lit × DataW H → Nat
  | (.string bytes, d) => bytes.length + uptoBulk d + 1
  | (_, d) => uptoBulk d + 1
 end
def uptoSmall : (H : Type) → List (DataW H) → Bool := fun _ ds => decide (uptoBulkAll ds ≤ 1048576)
def OpenSpec.upto (s : _root_.Go.ChangeSpec) : _root_.Go.OpenSpec := { _root_.Go.OpenSpec.ofChange s with cond := some uptoSmall }

/-- 'laws.FnOrders', WHERE WHAT IT READS IS OF BULK AT MOST 1048576: true; the input reads as it did. -/
def fnOrdersUptoRow : OpenClaim := { program := "ytobdgboejbbfiaa", sum := "9663514ad954b3e8b78c777547ddbb308a961a586a5b9c60e917982cd7d7aabf", func := "loop.example/g00941/laws.FnOrders", spec := "fnOrders", unfollowed := true, recurses := true, apart := false, narrowed := true }
def FnOrdersUptoSaid : Prop := fnOrdersUptoRow.holds Try.pinned (OpenSpec.upto fnOrdersSpec)

/-- 'laws.FnExactIsLive', WHERE WHAT IT READS IS OF BULK AT MOST 1048576: true; the input reads as it did. -/
def fnExactIsLiveUptoRow : OpenClaim := { program := "ytobdgboejbbfiaa", sum := "9663514ad954b3e8b78c777547ddbb308a961a586a5b9c60e917982cd7d7aabf", func := "loop.example/g00941/laws.FnExactIsLive", spec := "fnExactIsLive", unfollowed := true, recurses := true, apart := false, narrowed := true }
def FnExactIsLiveUptoSaid : Prop := fnExactIsLiveUptoRow.holds Try.pinned (OpenSpec.upto fnExactIsLiveSpec)

/-- 'laws.FnExactDeadCycle', WHERE WHAT IT READS IS OF BULK AT MOST 1048576: true; the input reads as it did. -/
def fnExactDeadCycleUptoRow : OpenClaim := { program := "ytobdgboejbbfiaa", sum := "9663514ad954b3e8b78c777547ddbb308a961a586a5b9c60e917982cd7d7aabf", func := "loop.example/g00941/laws.FnExactDeadCycle", spec := "fnExactDeadCycle", unfollowed := true, recurses := true, apart := false, narrowed := true }
def FnExactDeadCycleUptoSaid : Prop := fnExactDeadCycleUptoRow.holds Try.pinned (OpenSpec.upto fnExactDeadCycleSpec)

/-- 'laws.FnExactFiringOrder', WHERE WHAT IT READS IS OF BULK AT MOST 1048576: true; the input reads as it did. -/
def fnExactFiringOrderUptoRow : OpenClaim := { program := "ytobdgboejbbfiaa", sum := "9663514ad954b3e8b78c777547ddbb308a961a586a5b9c60e917982cd7d7aabf", func := "loop.example/g00941/laws.FnExactFiringOrder", spec := "fnExactFiringOrder", unfollowed := true, recurses := true, apart := false, narrowed := true }
def FnExactFiringOrderUptoSaid : Prop := fnExactFiringOrderUptoRow.holds Try.pinned (OpenSpec.upto fnExactFiringOrderSpec)

/-- 'laws.FnExactLevelsOf', WHERE WHAT IT READS IS OF BULK AT MOST 1048576: true; the input reads as it did. -/
def fnExactLevelsOfUptoRow : OpenClaim := { program := "ytobdgboejbbfiaa", sum := "9663514ad954b3e8b78c777547ddbb308a961a586a5b9c60e917982cd7d7aabf", func := "loop.example/g00941/laws.FnExactLevelsOf", spec := "fnExactLevelsOf", unfollowed := true, recurses := true, apart := false, narrowed := true }
def FnExactLevelsOfUptoSaid : Prop := fnExactLevelsOfUptoRow.holds Try.pinned (OpenSpec.upto fnExactLevelsOfSpec)

/-- 'laws.FnExactSourcesOf', WHERE WHAT IT READS IS OF BULK AT MOST 1048576: true; the input reads as it did. -/
def fnExactSourcesOfUptoRow : OpenClaim := { program := "ytobdgboejbbfiaa", sum := "9663514ad954b3e8b78c777547ddbb308a961a586a5b9c60e917982cd7d7aabf", func := "loop.example/g00941/laws.FnExactSourcesOf", spec := "fnExactSourcesOf", unfollowed := true, recurses := true, apart := false, narrowed := true }
def FnExactSourcesOfUptoSaid : Prop := fnExactSourcesOfUptoRow.holds Try.pinned (OpenSpec.upto fnExactSourcesOfSpec)

/-- 'laws.FnExactIsStrong', WHERE WHAT IT READS IS OF BULK AT MOST 1048576: true; the input reads as it did. -/
def fnExactIsStrongUptoRow : OpenClaim := { program := "ytobdgboejbbfiaa", sum := "9663514ad954b3e8b78c777547ddbb308a961a586a5b9c60e917982cd7d7aabf", func := "loop.example/g00941/laws.FnExactIsStrong", spec := "fnExactIsStrong", unfollowed := true, recurses := true, apart := false, narrowed := true }
def FnExactIsStrongUptoSaid : Prop := fnExactIsStrongUptoRow.holds Try.pinned (OpenSpec.upto fnExactIsStrongSpec)

/-- 'laws.FnExactTokenDistance', WHERE WHAT IT READS IS OF BULK AT MOST 1048576: true; the input reads as it did. -/
def fnExactTokenDistanceUptoRow : OpenClaim := { program := "ytobdgboejbbfiaa", sum := "9663514ad954b3e8b78c777547ddbb308a961a586a5b9c60e917982cd7d7aabf", func := "loop.example/g00941/laws.FnExactTokenDistance", spec := "fnExactTokenDistance", unfollowed := true, recurses := true, apart := false, narrowed := true }
def FnExactTokenDistanceUptoSaid : Prop := fnExactTokenDistanceUptoRow.holds Try.pinned (OpenSpec.upto fnExactTokenDistanceSpec)

/-- 'laws.FnExactTokenBound', WHERE WHAT IT READS IS OF BULK AT MOST 1048576: true; the input reads as it did. -/
def fnExactTokenBoundUptoRow : OpenClaim := { program := "ytobdgboejbbfiaa", sum := "9663514ad954b3e8b78c777547ddbb308a961a586a5b9c60e917982cd7d7aabf", func := "loop.example/g00941/laws.FnExactTokenBound", spec := "fnExactTokenBound", unfollowed := true, recurses := true, apart := false, narrowed := true }
def FnExactTokenBoundUptoSaid : Prop := fnExactTokenBoundUptoRow.holds Try.pinned (OpenSpec.upto fnExactTokenBoundSpec)

/-- 'laws.FnPlaces', WHERE WHAT IT READS IS OF BULK AT MOST 1048576: true; the input reads as it did. -/
def fnPlacesUptoRow : OpenClaim := { program := "ytobdgboejbbfiaa", sum := "9663514ad954b3e8b78c777547ddbb308a961a586a5b9c60e917982cd7d7aabf", func := "loop.example/g00941/laws.FnPlaces", spec := "fnPlaces", unfollowed := true, recurses := true, apart := false, narrowed := true }
def FnPlacesUptoSaid : Prop := fnPlacesUptoRow.holds Try.pinned (OpenSpec.upto fnPlacesSpec)

/-- 'laws.FnExactAddPlace', WHERE WHAT IT READS IS OF BULK AT MOST 1048576: true; the input reads as it did. -/
def fnExactAddPlaceUptoRow : OpenClaim := { program := "ytobdgboejbbfiaa", sum := "9663514ad954b3e8b78c777547ddbb308a961a586a5b9c60e917982cd7d7aabf", func := "loop.example/g00941/laws.FnExactAddPlace", spec := "fnExactAddPlace", unfollowed := true, recurses := true, apart := false, narrowed := true }
def FnExactAddPlaceUptoSaid : Prop := fnExactAddPlaceUptoRow.holds Try.pinned (OpenSpec.upto fnExactAddPlaceSpec)

/-- 'laws.FnExactSimplifyGraph', WHERE WHAT IT READS IS OF BULK AT MOST 1048576: true; the input reads as it did. -/
def fnExactSimplifyGraphUptoRow : OpenClaim := { program := "ytobdgboejbbfiaa", sum := "9663514ad954b3e8b78c777547ddbb308a961a586a5b9c60e917982cd7d7aabf", func := "loop.example/g00941/laws.FnExactSimplifyGraph", spec := "fnExactSimplifyGraph", unfollowed := true, recurses := true, apart := false, narrowed := true }
def FnExactSimplifyGraphUptoSaid : Prop := fnExactSimplifyGraphUptoRow.holds Try.pinned (OpenSpec.upto fnExactSimplifyGraphSpec)

end Rows
end Go.Proofs.Ytobdgboejbbfiaa
