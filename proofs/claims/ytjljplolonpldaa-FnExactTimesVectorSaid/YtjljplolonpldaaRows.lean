/-
  No cell of these rows narrows 'for every input' (looked for: loops, veiled, ifaces, maps, wideKeys, modest, calm, conditions, laid).
  DERIVED. THE GIVEN ROWS OF THIS SEAT. 12 by the template 'for every input the law returns true; each argument reads behind the call as it read before'; 0 by the template 'total and deterministic' (their statements: YtjljplolonpldaaTotals.lean).
  GIVEN WITH THE SEED: the statements are not yours to turn. If you find one false, say at which input.
  Laid BY PROGRAM, IN A SANDBOX (cutbox-rows.mjs): the forced cells as the released guide's own fill.sh prints them over the translation c28c4563b886ed1f… (all of the seat's roots in one cut). By AI agents, Wed Nov 11 2026. No macro, syntax, notation, axiom, sorry.
-/
import Derived.Test.YtjljplolonpldaaChecked
import GoSem.Claim
import GoSem.ClaimJoined
import GoSem.ClaimMapViews
import Derived.JoinedTies
import Derived.KernelRfl
namespace Go.Proofs.Ytjljplolonpldaa
/- THE CELL 'sum', in the pinned program and in every row, IS THE sha256 OF THE DUMP (.gsa) THAT YtjljplolonpldaaProg.lean LOADS. Nothing in Lean hashes anything: it is a label: what it is worth is what the hold of that sum in a sandbox is worth. -/
noncomputable def Try.pinned : Pinned := { name := "ytjljplolonpldaa", sum := "c28c4563b886ed1fc5e74b5513b5c622414214e0b4611a24c0795301ea36cd7b", checked := Try.checked }
namespace Rows
def none {H : Type} : Left H := { results := [], args := [] }

/-- 'laws.FnExactPowerEntry': WHATEVER THE INPUT: true; the input reads as it did. -/
def fnExactPowerEntrySpec : ChangeSpec := { name := "fnExactPowerEntry", fn := fun _ => fun
  | [d1, d2, d3, d4] => { results := [.lit (.bool true)], args := [d1, d2, d3, d4] }
  | _ => none }
def fnExactPowerEntryRow : OpenClaim := { program := "ytjljplolonpldaa", sum := "c28c4563b886ed1fc5e74b5513b5c622414214e0b4611a24c0795301ea36cd7b", func := "loop.example/g00941/laws.FnExactPowerEntry", spec := "fnExactPowerEntry", unfollowed := true, recurses := true, apart := false }
def FnExactPowerEntrySaid : Prop := fnExactPowerEntryRow.holds Try.pinned (OpenSpec.ofChange fnExactPowerEntrySpec)

/-- ITS FALSE NEIGHBOUR: 'it returns false'. Refute it at one input. -/
def fnExactPowerEntryWrong : ChangeSpec := { name := "fnExactPowerEntry", fn := fun _ => fun
  | [d1, d2, d3, d4] => { results := [.lit (.bool false)], args := [d1, d2, d3, d4] }
  | _ => none }
def FnExactPowerEntryWrongFalsely : Prop := fnExactPowerEntryRow.holds Try.pinned (OpenSpec.ofChange fnExactPowerEntryWrong)

/-- 'laws.FnExactSteadyState': WHATEVER THE INPUT: true; the input reads as it did. -/
def fnExactSteadyStateSpec : ChangeSpec := { name := "fnExactSteadyState", fn := fun _ => fun
  | [d1, d2] => { results := [.lit (.bool true)], args := [d1, d2] }
  | _ => none }
def fnExactSteadyStateRow : OpenClaim := { program := "ytjljplolonpldaa", sum := "c28c4563b886ed1fc5e74b5513b5c622414214e0b4611a24c0795301ea36cd7b", func := "loop.example/g00941/laws.FnExactSteadyState", spec := "fnExactSteadyState", unfollowed := true, recurses := true, apart := false }
def FnExactSteadyStateSaid : Prop := fnExactSteadyStateRow.holds Try.pinned (OpenSpec.ofChange fnExactSteadyStateSpec)

/-- ITS FALSE NEIGHBOUR: 'it returns false'. Refute it at one input. -/
def fnExactSteadyStateWrong : ChangeSpec := { name := "fnExactSteadyState", fn := fun _ => fun
  | [d1, d2] => { results := [.lit (.bool false)], args := [d1, d2] }
  | _ => none }
def FnExactSteadyStateWrongFalsely : Prop := fnExactSteadyStateRow.holds Try.pinned (OpenSpec.ofChange fnExactSteadyStateWrong)

/-- 'laws.FnOrbits': WHATEVER THE INPUT: true; the input reads as it did. -/
def fnOrbitsSpec : ChangeSpec := { name := "fnOrbits", fn := fun _ => fun
  | [d] => { results := [.lit (.bool true)], args := [d] }
  | _ => none }
def fnOrbitsRow : OpenClaim := { program := "ytjljplolonpldaa", sum := "c28c4563b886ed1fc5e74b5513b5c622414214e0b4611a24c0795301ea36cd7b", func := "loop.example/g00941/laws.FnOrbits", spec := "fnOrbits", unfollowed := true, recurses := true, apart := false }
def FnOrbitsSaid : Prop := fnOrbitsRow.holds Try.pinned (OpenSpec.ofChange fnOrbitsSpec)

/-- ITS FALSE NEIGHBOUR: 'it returns false'. Refute it at one input. -/
def fnOrbitsWrong : ChangeSpec := { name := "fnOrbits", fn := fun _ => fun
  | [d] => { results := [.lit (.bool false)], args := [d] }
  | _ => none }
def FnOrbitsWrongFalsely : Prop := fnOrbitsRow.holds Try.pinned (OpenSpec.ofChange fnOrbitsWrong)

/-- 'laws.FnGreatPowers': WHATEVER THE INPUT: true; the input reads as it did. -/
def fnGreatPowersSpec : ChangeSpec := { name := "fnGreatPowers", fn := fun _ => fun
  | [d] => { results := [.lit (.bool true)], args := [d] }
  | _ => none }
def fnGreatPowersRow : OpenClaim := { program := "ytjljplolonpldaa", sum := "c28c4563b886ed1fc5e74b5513b5c622414214e0b4611a24c0795301ea36cd7b", func := "loop.example/g00941/laws.FnGreatPowers", spec := "fnGreatPowers", unfollowed := true, recurses := true, apart := false }
def FnGreatPowersSaid : Prop := fnGreatPowersRow.holds Try.pinned (OpenSpec.ofChange fnGreatPowersSpec)

/-- ITS FALSE NEIGHBOUR: 'it returns false'. Refute it at one input. -/
def fnGreatPowersWrong : ChangeSpec := { name := "fnGreatPowers", fn := fun _ => fun
  | [d] => { results := [.lit (.bool false)], args := [d] }
  | _ => none }
def FnGreatPowersWrongFalsely : Prop := fnGreatPowersRow.holds Try.pinned (OpenSpec.ofChange fnGreatPowersWrong)

/-- 'laws.FnOrbitRates': WHATEVER THE INPUT: true; the input reads as it did. -/
def fnOrbitRatesSpec : ChangeSpec := { name := "fnOrbitRates", fn := fun _ => fun
  | [d] => { results := [.lit (.bool true)], args := [d] }
  | _ => none }
def fnOrbitRatesRow : OpenClaim := { program := "ytjljplolonpldaa", sum := "c28c4563b886ed1fc5e74b5513b5c622414214e0b4611a24c0795301ea36cd7b", func := "loop.example/g00941/laws.FnOrbitRates", spec := "fnOrbitRates", unfollowed := true, recurses := true, apart := false }
def FnOrbitRatesSaid : Prop := fnOrbitRatesRow.holds Try.pinned (OpenSpec.ofChange fnOrbitRatesSpec)

/-- ITS FALSE NEIGHBOUR: 'it returns false'. Refute it at one input. -/
def fnOrbitRatesWrong : ChangeSpec := { name := "fnOrbitRates", fn := fun _ => fun
  | [d] => { results := [.lit (.bool false)], args := [d] }
  | _ => none }
def FnOrbitRatesWrongFalsely : Prop := fnOrbitRatesRow.holds Try.pinned (OpenSpec.ofChange fnOrbitRatesWrong)

/-- 'laws.FnExactShiftVector': WHATEVER THE INPUT: true; the input reads as it did. -/
def fnExactShiftVectorSpec : ChangeSpec := { name := "fnExactShiftVector", fn := fun _ => fun
  | [d1, d2] => { results := [.lit (.bool true)], args := [d1, d2] }
  | _ => none }
def fnExactShiftVectorRow : OpenClaim := { program := "ytjljplolonpldaa", sum := "c28c4563b886ed1fc5e74b5513b5c622414214e0b4611a24c0795301ea36cd7b", func := "loop.example/g00941/laws.FnExactShiftVector", spec := "fnExactShiftVector", unfollowed := true, recurses := true, apart := false }
def FnExactShiftVectorSaid : Prop := fnExactShiftVectorRow.holds Try.pinned (OpenSpec.ofChange fnExactShiftVectorSpec)

/-- ITS FALSE NEIGHBOUR: 'it returns false'. Refute it at one input. -/
def fnExactShiftVectorWrong : ChangeSpec := { name := "fnExactShiftVector", fn := fun _ => fun
  | [d1, d2] => { results := [.lit (.bool false)], args := [d1, d2] }
  | _ => none }
def FnExactShiftVectorWrongFalsely : Prop := fnExactShiftVectorRow.holds Try.pinned (OpenSpec.ofChange fnExactShiftVectorWrong)

/-- 'laws.FnMatrixProducts': WHATEVER THE INPUT: true; the input reads as it did. -/
def fnMatrixProductsSpec : ChangeSpec := { name := "fnMatrixProducts", fn := fun _ => fun
  | [d] => { results := [.lit (.bool true)], args := [d] }
  | _ => none }
def fnMatrixProductsRow : OpenClaim := { program := "ytjljplolonpldaa", sum := "c28c4563b886ed1fc5e74b5513b5c622414214e0b4611a24c0795301ea36cd7b", func := "loop.example/g00941/laws.FnMatrixProducts", spec := "fnMatrixProducts", unfollowed := true, recurses := true, apart := false }
def FnMatrixProductsSaid : Prop := fnMatrixProductsRow.holds Try.pinned (OpenSpec.ofChange fnMatrixProductsSpec)

/-- ITS FALSE NEIGHBOUR: 'it returns false'. Refute it at one input. -/
def fnMatrixProductsWrong : ChangeSpec := { name := "fnMatrixProducts", fn := fun _ => fun
  | [d] => { results := [.lit (.bool false)], args := [d] }
  | _ => none }
def FnMatrixProductsWrongFalsely : Prop := fnMatrixProductsRow.holds Try.pinned (OpenSpec.ofChange fnMatrixProductsWrong)

/-- 'laws.FnMatrixPowers': WHATEVER THE INPUT: true; the input reads as it did. -/
def fnMatrixPowersSpec : ChangeSpec := { name := "fnMatrixPowers", fn := fun _ => fun
  | [d] => { results := [.lit (.bool true)], args := [d] }
  | _ => none }
def fnMatrixPowersRow : OpenClaim := { program := "ytjljplolonpldaa", sum := "c28c4563b886ed1fc5e74b5513b5c622414214e0b4611a24c0795301ea36cd7b", func := "loop.example/g00941/laws.FnMatrixPowers", spec := "fnMatrixPowers", unfollowed := true, recurses := true, apart := false }
def FnMatrixPowersSaid : Prop := fnMatrixPowersRow.holds Try.pinned (OpenSpec.ofChange fnMatrixPowersSpec)

/-- ITS FALSE NEIGHBOUR: 'it returns false'. Refute it at one input. -/
def fnMatrixPowersWrong : ChangeSpec := { name := "fnMatrixPowers", fn := fun _ => fun
  | [d] => { results := [.lit (.bool false)], args := [d] }
  | _ => none }
def FnMatrixPowersWrongFalsely : Prop := fnMatrixPowersRow.holds Try.pinned (OpenSpec.ofChange fnMatrixPowersWrong)

/-- 'laws.FnTransposes': WHATEVER THE INPUT: true; the input reads as it did. -/
def fnTransposesSpec : ChangeSpec := { name := "fnTransposes", fn := fun _ => fun
  | [d] => { results := [.lit (.bool true)], args := [d] }
  | _ => none }
def fnTransposesRow : OpenClaim := { program := "ytjljplolonpldaa", sum := "c28c4563b886ed1fc5e74b5513b5c622414214e0b4611a24c0795301ea36cd7b", func := "loop.example/g00941/laws.FnTransposes", spec := "fnTransposes", unfollowed := true, recurses := true, apart := false }
def FnTransposesSaid : Prop := fnTransposesRow.holds Try.pinned (OpenSpec.ofChange fnTransposesSpec)

/-- ITS FALSE NEIGHBOUR: 'it returns false'. Refute it at one input. -/
def fnTransposesWrong : ChangeSpec := { name := "fnTransposes", fn := fun _ => fun
  | [d] => { results := [.lit (.bool false)], args := [d] }
  | _ => none }
def FnTransposesWrongFalsely : Prop := fnTransposesRow.holds Try.pinned (OpenSpec.ofChange fnTransposesWrong)

/-- 'laws.FnVectors': WHATEVER THE INPUT: true; the input reads as it did. -/
def fnVectorsSpec : ChangeSpec := { name := "fnVectors", fn := fun _ => fun
  | [d] => { results := [.lit (.bool true)], args := [d] }
  | _ => none }
def fnVectorsRow : OpenClaim := { program := "ytjljplolonpldaa", sum := "c28c4563b886ed1fc5e74b5513b5c622414214e0b4611a24c0795301ea36cd7b", func := "loop.example/g00941/laws.FnVectors", spec := "fnVectors", unfollowed := true, recurses := true, apart := false }
def FnVectorsSaid : Prop := fnVectorsRow.holds Try.pinned (OpenSpec.ofChange fnVectorsSpec)

/-- ITS FALSE NEIGHBOUR: 'it returns false'. Refute it at one input. -/
def fnVectorsWrong : ChangeSpec := { name := "fnVectors", fn := fun _ => fun
  | [d] => { results := [.lit (.bool false)], args := [d] }
  | _ => none }
def FnVectorsWrongFalsely : Prop := fnVectorsRow.holds Try.pinned (OpenSpec.ofChange fnVectorsWrong)

/-- 'laws.FnExactMultiplyMatrices': WHATEVER THE INPUT: true; the input reads as it did. -/
def fnExactMultiplyMatricesSpec : ChangeSpec := { name := "fnExactMultiplyMatrices", fn := fun _ => fun
  | [d1, d2] => { results := [.lit (.bool true)], args := [d1, d2] }
  | _ => none }
def fnExactMultiplyMatricesRow : OpenClaim := { program := "ytjljplolonpldaa", sum := "c28c4563b886ed1fc5e74b5513b5c622414214e0b4611a24c0795301ea36cd7b", func := "loop.example/g00941/laws.FnExactMultiplyMatrices", spec := "fnExactMultiplyMatrices", unfollowed := true, recurses := true, apart := false }
def FnExactMultiplyMatricesSaid : Prop := fnExactMultiplyMatricesRow.holds Try.pinned (OpenSpec.ofChange fnExactMultiplyMatricesSpec)

/-- ITS FALSE NEIGHBOUR: 'it returns false'. Refute it at one input. -/
def fnExactMultiplyMatricesWrong : ChangeSpec := { name := "fnExactMultiplyMatrices", fn := fun _ => fun
  | [d1, d2] => { results := [.lit (.bool false)], args := [d1, d2] }
  | _ => none }
def FnExactMultiplyMatricesWrongFalsely : Prop := fnExactMultiplyMatricesRow.holds Try.pinned (OpenSpec.ofChange fnExactMultiplyMatricesWrong)

/-- 'laws.FnExactTimesVector': WHATEVER THE INPUT: true; the input reads as it did. -/
def fnExactTimesVectorSpec : ChangeSpec := { name := "fnExactTimesVector", fn := fun _ => fun
  | [d1, d2] => { results := [.lit (.bool true)], args := [d1, d2] }
  | _ => none }
def fnExactTimesVectorRow : OpenClaim := { program := "ytjljplolonpldaa", sum := "c28c4563b886ed1fc5e74b5513b5c622414214e0b4611a24c0795301ea36cd7b", func := "loop.example/g00941/laws.FnExactTimesVector", spec := "fnExactTimesVector", unfollowed := true, recurses := true, apart := false }
def FnExactTimesVectorSaid : Prop := fnExactTimesVectorRow.holds Try.pinned (OpenSpec.ofChange fnExactTimesVectorSpec)

/-- ITS FALSE NEIGHBOUR: 'it returns false'. Refute it at one input. -/
def fnExactTimesVectorWrong : ChangeSpec := { name := "fnExactTimesVector", fn := fun _ => fun
  | [d1, d2] => { results := [.lit (.bool false)], args := [d1, d2] }
  | _ => none }
def FnExactTimesVectorWrongFalsely : Prop := fnExactTimesVectorRow.holds Try.pinned (OpenSpec.ofChange fnExactTimesVectorWrong)

/- THE SECOND FORM. 'bulk': how many values and letters a reading holds, each counted each time it is reached (what is shared counts as often as it is met; a slice's spare places count too). A statement '..UptoSaid' is the law's where the arguments, and the package variables that the reading takes, are together of bulk at most 1048576: NARROWER than '..Said'. Prove '..Said' where nothing that the law and all that it calls make is longer than what came in: it says more and counts as full. Else prove '..UptoSaid'. A law counts once. -/
mutual
def uptoBulk {H : Type} : DataW H → Nat
  | .lit (.string bytes) => bytes.length + 1
  | .lit _ => 1
  | .nil => 1
  | .ptr d => uptoBulk d + 1
  | .slice elems spare => uptoBulkAll elems + uptoBulkAll spare + 1
  | .agg parts => uptoBulkAll parts + 1
  | .iface _ d => uptoBulk d + 1
  | .map entries => uptoBulkEntries entries + 1
  | .held _ => 1
def uptoBulkAll {H : Type} : List (DataW H) → Nat
  | [] => 0
  | d :: r => uptoBulk d + uptoBulkAll r
def uptoBulkEntries {H : Type} : List (Lit × DataW H) → Nat
  | [] => 0
  | x :: r => uptoBulkEntry x + uptoBulkEntries r
def uptoBulkEntry {H : Type} : Lit × DataW H → Nat
  | (.string bytes, d) => bytes.length + uptoBulk d + 1
  | (_, d) => uptoBulk d + 1
 end
def uptoSmall : (H : Type) → List (DataW H) → Bool := fun _ ds => decide (uptoBulkAll ds ≤ 1048576)
def OpenSpec.upto (s : _root_.Go.ChangeSpec) : _root_.Go.OpenSpec := { _root_.Go.OpenSpec.ofChange s with cond := some uptoSmall }

/-- 'laws.FnExactPowerEntry', WHERE WHAT IT READS IS OF BULK AT MOST 1048576: true; the input reads as it did. -/
def fnExactPowerEntryUptoRow : OpenClaim := { program := "ytjljplolonpldaa", sum := "c28c4563b886ed1fc5e74b5513b5c622414214e0b4611a24c0795301ea36cd7b", func := "loop.example/g00941/laws.FnExactPowerEntry", spec := "fnExactPowerEntry", unfollowed := true, recurses := true, apart := false, narrowed := true }
def FnExactPowerEntryUptoSaid : Prop := fnExactPowerEntryUptoRow.holds Try.pinned (OpenSpec.upto fnExactPowerEntrySpec)

/-- 'laws.FnExactSteadyState', WHERE WHAT IT READS IS OF BULK AT MOST 1048576: true; the input reads as it did. -/
def fnExactSteadyStateUptoRow : OpenClaim := { program := "ytjljplolonpldaa", sum := "c28c4563b886ed1fc5e74b5513b5c622414214e0b4611a24c0795301ea36cd7b", func := "loop.example/g00941/laws.FnExactSteadyState", spec := "fnExactSteadyState", unfollowed := true, recurses := true, apart := false, narrowed := true }
def FnExactSteadyStateUptoSaid : Prop := fnExactSteadyStateUptoRow.holds Try.pinned (OpenSpec.upto fnExactSteadyStateSpec)

/-- 'laws.FnOrbits', WHERE WHAT IT READS IS OF BULK AT MOST 1048576: true; the input reads as it did. -/
def fnOrbitsUptoRow : OpenClaim := { program := "ytjljplolonpldaa", sum := "c28c4563b886ed1fc5e74b5513b5c622414214e0b4611a24c0795301ea36cd7b", func := "loop.example/g00941/laws.FnOrbits", spec := "fnOrbits", unfollowed := true, recurses := true, apart := false, narrowed := true }
def FnOrbitsUptoSaid : Prop := fnOrbitsUptoRow.holds Try.pinned (OpenSpec.upto fnOrbitsSpec)

/-- 'laws.FnGreatPowers', WHERE WHAT IT READS IS OF BULK AT MOST 1048576: true; the input reads as it did. -/
def fnGreatPowersUptoRow : OpenClaim := { program := "ytjljplolonpldaa", sum := "c28c4563b886ed1fc5e74b5513b5c622414214e0b4611a24c0795301ea36cd7b", func := "loop.example/g00941/laws.FnGreatPowers", spec := "fnGreatPowers", unfollowed := true, recurses := true, apart := false, narrowed := true }
def FnGreatPowersUptoSaid : Prop := fnGreatPowersUptoRow.holds Try.pinned (OpenSpec.upto fnGreatPowersSpec)

/-- 'laws.FnOrbitRates', WHERE WHAT IT READS IS OF BULK AT MOST 1048576: true; the input reads as it did. -/
def fnOrbitRatesUptoRow : OpenClaim := { program := "ytjljplolonpldaa", sum := "c28c4563b886ed1fc5e74b5513b5c622414214e0b4611a24c0795301ea36cd7b", func := "loop.example/g00941/laws.FnOrbitRates", spec := "fnOrbitRates", unfollowed := true, recurses := true, apart := false, narrowed := true }
def FnOrbitRatesUptoSaid : Prop := fnOrbitRatesUptoRow.holds Try.pinned (OpenSpec.upto fnOrbitRatesSpec)

/-- 'laws.FnExactShiftVector', WHERE WHAT IT READS IS OF BULK AT MOST 1048576: true; the input reads as it did. -/
def fnExactShiftVectorUptoRow : OpenClaim := { program := "ytjljplolonpldaa", sum := "c28c4563b886ed1fc5e74b5513b5c622414214e0b4611a24c0795301ea36cd7b", func := "loop.example/g00941/laws.FnExactShiftVector", spec := "fnExactShiftVector", unfollowed := true, recurses := true, apart := false, narrowed := true }
def FnExactShiftVectorUptoSaid : Prop := fnExactShiftVectorUptoRow.holds Try.pinned (OpenSpec.upto fnExactShiftVectorSpec)

/-- 'laws.FnMatrixProducts', WHERE WHAT IT READS IS OF BULK AT MOST 1048576: true; the input reads as it did. -/
def fnMatrixProductsUptoRow : OpenClaim := { program := "ytjljplolonpldaa", sum := "c28c4563b886ed1fc5e74b5513b5c622414214e0b4611a24c0795301ea36cd7b", func := "loop.example/g00941/laws.FnMatrixProducts", spec := "fnMatrixProducts", unfollowed := true, recurses := true, apart := false, narrowed := true }
def FnMatrixProductsUptoSaid : Prop := fnMatrixProductsUptoRow.holds Try.pinned (OpenSpec.upto fnMatrixProductsSpec)

/-- 'laws.FnMatrixPowers', WHERE WHAT IT READS IS OF BULK AT MOST 1048576: true; the input reads as it did. -/
def fnMatrixPowersUptoRow : OpenClaim := { program := "ytjljplolonpldaa", sum := "c28c4563b886ed1fc5e74b5513b5c622414214e0b4611a24c0795301ea36cd7b", func := "loop.example/g00941/laws.FnMatrixPowers", spec := "fnMatrixPowers", unfollowed := true, recurses := true, apart := false, narrowed := true }
def FnMatrixPowersUptoSaid : Prop := fnMatrixPowersUptoRow.holds Try.pinned (OpenSpec.upto fnMatrixPowersSpec)

/-- 'laws.FnTransposes', WHERE WHAT IT READS IS OF BULK AT MOST 1048576: true; the input reads as it did. -/
def fnTransposesUptoRow : OpenClaim := { program := "ytjljplolonpldaa", sum := "c28c4563b886ed1fc5e74b5513b5c622414214e0b4611a24c0795301ea36cd7b", func := "loop.example/g00941/laws.FnTransposes", spec := "fnTransposes", unfollowed := true, recurses := true, apart := false, narrowed := true }
def FnTransposesUptoSaid : Prop := fnTransposesUptoRow.holds Try.pinned (OpenSpec.upto fnTransposesSpec)

/-- 'laws.FnVectors', WHERE WHAT IT READS IS OF BULK AT MOST 1048576: true; the input reads as it did. -/
def fnVectorsUptoRow : OpenClaim := { program := "ytjljplolonpldaa", sum := "c28c4563b886ed1fc5e74b5513b5c622414214e0b4611a24c0795301ea36cd7b", func := "loop.example/g00941/laws.FnVectors", spec := "fnVectors", unfollowed := true, recurses := true, apart := false, narrowed := true }
def FnVectorsUptoSaid : Prop := fnVectorsUptoRow.holds Try.pinned (OpenSpec.upto fnVectorsSpec)

/-- 'laws.FnExactMultiplyMatrices', WHERE WHAT IT READS IS OF BULK AT MOST 1048576: true; the input reads as it did. -/
def fnExactMultiplyMatricesUptoRow : OpenClaim := { program := "ytjljplolonpldaa", sum := "c28c4563b886ed1fc5e74b5513b5c622414214e0b4611a24c0795301ea36cd7b", func := "loop.example/g00941/laws.FnExactMultiplyMatrices", spec := "fnExactMultiplyMatrices", unfollowed := true, recurses := true, apart := false, narrowed := true }
def FnExactMultiplyMatricesUptoSaid : Prop := fnExactMultiplyMatricesUptoRow.holds Try.pinned (OpenSpec.upto fnExactMultiplyMatricesSpec)

/-- 'laws.FnExactTimesVector', WHERE WHAT IT READS IS OF BULK AT MOST 1048576: true; the input reads as it did. -/
def fnExactTimesVectorUptoRow : OpenClaim := { program := "ytjljplolonpldaa", sum := "c28c4563b886ed1fc5e74b5513b5c622414214e0b4611a24c0795301ea36cd7b", func := "loop.example/g00941/laws.FnExactTimesVector", spec := "fnExactTimesVector", unfollowed := true, recurses := true, apart := false, narrowed := true }
def FnExactTimesVectorUptoSaid : Prop := fnExactTimesVectorUptoRow.holds Try.pinned (OpenSpec.upto fnExactTimesVectorSpec)

end Rows
end Go.Proofs.Ytjljplolonpldaa
