/-
  No cell of these rows narrows 'for every input' (looked for: loops, veiled, ifaces, maps, wideKeys, modest, calm, conditions, laid).
  DERIVED. THE GIVEN ROWS OF THIS SEAT. 11 by the template 'for every input the law returns true; each argument reads behind the call as it read before'; 0 by the template 'total and deterministic' (their statements: YtcofjjipjcekjabTotals.lean).
  GIVEN WITH THE SEED: the statements are not yours to turn. If you find one false, say at which input.
  Laid BY PROGRAM, IN A SANDBOX (cutbox-rows.mjs): the forced cells as the released guide's own fill.sh prints them over the translation 66a55e30ff2f0258… (all of the seat's roots in one cut). By AI agents, Wed Nov 11 2026. No macro, syntax, notation, axiom, sorry.
-/
import Derived.Test.YtcofjjipjcekjabChecked
import GoSem.Claim
import GoSem.ClaimJoined
import GoSem.ClaimMapViews
import Derived.JoinedTies
import Derived.KernelRfl
namespace Go.Proofs.Ytcofjjipjcekjab
/- THE CELL 'sum', in the pinned program and in every row, IS THE sha256 OF THE DUMP (.gsa) THAT YtcofjjipjcekjabProg.lean LOADS. Nothing in Lean hashes anything: it is a label: what it is worth is what the hold of that sum in a sandbox is worth. -/
noncomputable def Try.pinned : Pinned := { name := "ytcofjjipjcekjab", sum := "66a55e30ff2f0258da84ea05dfc612a64c07eb8ceed741d04f0d350637988a04", checked := Try.checked }
namespace Rows
def none {H : Type} : Left H := { results := [], args := [] }

/-- 'laws.FnOrbits': WHATEVER THE INPUT: true; the input reads as it did. -/
def fnOrbitsSpec : ChangeSpec := { name := "fnOrbits", fn := fun _ => fun
  | [d] => { results := [.lit (.bool true)], args := [d] }
  | _ => none }
def fnOrbitsRow : OpenClaim := { program := "ytcofjjipjcekjab", sum := "66a55e30ff2f0258da84ea05dfc612a64c07eb8ceed741d04f0d350637988a04", func := "loop.example/g00941/laws.FnOrbits", spec := "fnOrbits", unfollowed := true, recurses := true, apart := false }
def FnOrbitsSaid : Prop := fnOrbitsRow.holds Try.pinned (OpenSpec.ofChange fnOrbitsSpec)

/-- ITS FALSE NEIGHBOUR: 'it returns false'. Refute it at one input. -/
def fnOrbitsWrong : ChangeSpec := { name := "fnOrbits", fn := fun _ => fun
  | [d] => { results := [.lit (.bool false)], args := [d] }
  | _ => none }
def FnOrbitsWrongFalsely : Prop := fnOrbitsRow.holds Try.pinned (OpenSpec.ofChange fnOrbitsWrong)

/-- 'laws.FnGreatPowers': WHATEVER THE INPUT: true; the input reads as it did. -/
def fnGreatPowersSpec : ChangeSpec := { name := "fnGreatPowers", fn := fun _ => fun
  | [d] => { results := [.lit (.bool true)], args := [d] }
  | _ => none }
def fnGreatPowersRow : OpenClaim := { program := "ytcofjjipjcekjab", sum := "66a55e30ff2f0258da84ea05dfc612a64c07eb8ceed741d04f0d350637988a04", func := "loop.example/g00941/laws.FnGreatPowers", spec := "fnGreatPowers", unfollowed := true, recurses := true, apart := false }
def FnGreatPowersSaid : Prop := fnGreatPowersRow.holds Try.pinned (OpenSpec.ofChange fnGreatPowersSpec)

/-- ITS FALSE NEIGHBOUR: 'it returns false'. Refute it at one input. -/
def fnGreatPowersWrong : ChangeSpec := { name := "fnGreatPowers", fn := fun _ => fun
  | [d] => { results := [.lit (.bool false)], args := [d] }
  | _ => none }
def FnGreatPowersWrongFalsely : Prop := fnGreatPowersRow.holds Try.pinned (OpenSpec.ofChange fnGreatPowersWrong)

/-- 'laws.FnExactOrbitOf': WHATEVER THE INPUT: true; the input reads as it did. -/
def fnExactOrbitOfSpec : ChangeSpec := { name := "fnExactOrbitOf", fn := fun _ => fun
  | [d1, d2, d3] => { results := [.lit (.bool true)], args := [d1, d2, d3] }
  | _ => none }
def fnExactOrbitOfRow : OpenClaim := { program := "ytcofjjipjcekjab", sum := "66a55e30ff2f0258da84ea05dfc612a64c07eb8ceed741d04f0d350637988a04", func := "loop.example/g00941/laws.FnExactOrbitOf", spec := "fnExactOrbitOf", unfollowed := true, recurses := true, apart := false }
def FnExactOrbitOfSaid : Prop := fnExactOrbitOfRow.holds Try.pinned (OpenSpec.ofChange fnExactOrbitOfSpec)

/-- ITS FALSE NEIGHBOUR: 'it returns false'. Refute it at one input. -/
def fnExactOrbitOfWrong : ChangeSpec := { name := "fnExactOrbitOf", fn := fun _ => fun
  | [d1, d2, d3] => { results := [.lit (.bool false)], args := [d1, d2, d3] }
  | _ => none }
def FnExactOrbitOfWrongFalsely : Prop := fnExactOrbitOfRow.holds Try.pinned (OpenSpec.ofChange fnExactOrbitOfWrong)

/-- 'laws.FnExactPowersRepeat': WHATEVER THE INPUT: true; the input reads as it did. -/
def fnExactPowersRepeatSpec : ChangeSpec := { name := "fnExactPowersRepeat", fn := fun _ => fun
  | [d] => { results := [.lit (.bool true)], args := [d] }
  | _ => none }
def fnExactPowersRepeatRow : OpenClaim := { program := "ytcofjjipjcekjab", sum := "66a55e30ff2f0258da84ea05dfc612a64c07eb8ceed741d04f0d350637988a04", func := "loop.example/g00941/laws.FnExactPowersRepeat", spec := "fnExactPowersRepeat", unfollowed := true, recurses := true, apart := false }
def FnExactPowersRepeatSaid : Prop := fnExactPowersRepeatRow.holds Try.pinned (OpenSpec.ofChange fnExactPowersRepeatSpec)

/-- ITS FALSE NEIGHBOUR: 'it returns false'. Refute it at one input. -/
def fnExactPowersRepeatWrong : ChangeSpec := { name := "fnExactPowersRepeat", fn := fun _ => fun
  | [d] => { results := [.lit (.bool false)], args := [d] }
  | _ => none }
def FnExactPowersRepeatWrongFalsely : Prop := fnExactPowersRepeatRow.holds Try.pinned (OpenSpec.ofChange fnExactPowersRepeatWrong)

/-- 'laws.FnExactOrbitRepeats': WHATEVER THE INPUT: true; the input reads as it did. -/
def fnExactOrbitRepeatsSpec : ChangeSpec := { name := "fnExactOrbitRepeats", fn := fun _ => fun
  | [d1, d2] => { results := [.lit (.bool true)], args := [d1, d2] }
  | _ => none }
def fnExactOrbitRepeatsRow : OpenClaim := { program := "ytcofjjipjcekjab", sum := "66a55e30ff2f0258da84ea05dfc612a64c07eb8ceed741d04f0d350637988a04", func := "loop.example/g00941/laws.FnExactOrbitRepeats", spec := "fnExactOrbitRepeats", unfollowed := true, recurses := true, apart := false }
def FnExactOrbitRepeatsSaid : Prop := fnExactOrbitRepeatsRow.holds Try.pinned (OpenSpec.ofChange fnExactOrbitRepeatsSpec)

/-- ITS FALSE NEIGHBOUR: 'it returns false'. Refute it at one input. -/
def fnExactOrbitRepeatsWrong : ChangeSpec := { name := "fnExactOrbitRepeats", fn := fun _ => fun
  | [d1, d2] => { results := [.lit (.bool false)], args := [d1, d2] }
  | _ => none }
def FnExactOrbitRepeatsWrongFalsely : Prop := fnExactOrbitRepeatsRow.holds Try.pinned (OpenSpec.ofChange fnExactOrbitRepeatsWrong)

/-- 'laws.FnExactIsRepeat': WHATEVER THE INPUT: true; the input reads as it did. -/
def fnExactIsRepeatSpec : ChangeSpec := { name := "fnExactIsRepeat", fn := fun _ => fun
  | [d1, d2, d3, d4] => { results := [.lit (.bool true)], args := [d1, d2, d3, d4] }
  | _ => none }
def fnExactIsRepeatRow : OpenClaim := { program := "ytcofjjipjcekjab", sum := "66a55e30ff2f0258da84ea05dfc612a64c07eb8ceed741d04f0d350637988a04", func := "loop.example/g00941/laws.FnExactIsRepeat", spec := "fnExactIsRepeat", unfollowed := true, recurses := true, apart := false }
def FnExactIsRepeatSaid : Prop := fnExactIsRepeatRow.holds Try.pinned (OpenSpec.ofChange fnExactIsRepeatSpec)

/-- ITS FALSE NEIGHBOUR: 'it returns false'. Refute it at one input. -/
def fnExactIsRepeatWrong : ChangeSpec := { name := "fnExactIsRepeat", fn := fun _ => fun
  | [d1, d2, d3, d4] => { results := [.lit (.bool false)], args := [d1, d2, d3, d4] }
  | _ => none }
def FnExactIsRepeatWrongFalsely : Prop := fnExactIsRepeatRow.holds Try.pinned (OpenSpec.ofChange fnExactIsRepeatWrong)

/-- 'laws.FnExactOrbitRate': WHATEVER THE INPUT: true; the input reads as it did. -/
def fnExactOrbitRateSpec : ChangeSpec := { name := "fnExactOrbitRate", fn := fun _ => fun
  | [d1, d2] => { results := [.lit (.bool true)], args := [d1, d2] }
  | _ => none }
def fnExactOrbitRateRow : OpenClaim := { program := "ytcofjjipjcekjab", sum := "66a55e30ff2f0258da84ea05dfc612a64c07eb8ceed741d04f0d350637988a04", func := "loop.example/g00941/laws.FnExactOrbitRate", spec := "fnExactOrbitRate", unfollowed := true, recurses := true, apart := false }
def FnExactOrbitRateSaid : Prop := fnExactOrbitRateRow.holds Try.pinned (OpenSpec.ofChange fnExactOrbitRateSpec)

/-- ITS FALSE NEIGHBOUR: 'it returns false'. Refute it at one input. -/
def fnExactOrbitRateWrong : ChangeSpec := { name := "fnExactOrbitRate", fn := fun _ => fun
  | [d1, d2] => { results := [.lit (.bool false)], args := [d1, d2] }
  | _ => none }
def FnExactOrbitRateWrongFalsely : Prop := fnExactOrbitRateRow.holds Try.pinned (OpenSpec.ofChange fnExactOrbitRateWrong)

/-- 'laws.FnExactPowerEntry': WHATEVER THE INPUT: true; the input reads as it did. -/
def fnExactPowerEntrySpec : ChangeSpec := { name := "fnExactPowerEntry", fn := fun _ => fun
  | [d1, d2, d3, d4] => { results := [.lit (.bool true)], args := [d1, d2, d3, d4] }
  | _ => none }
def fnExactPowerEntryRow : OpenClaim := { program := "ytcofjjipjcekjab", sum := "66a55e30ff2f0258da84ea05dfc612a64c07eb8ceed741d04f0d350637988a04", func := "loop.example/g00941/laws.FnExactPowerEntry", spec := "fnExactPowerEntry", unfollowed := true, recurses := true, apart := false }
def FnExactPowerEntrySaid : Prop := fnExactPowerEntryRow.holds Try.pinned (OpenSpec.ofChange fnExactPowerEntrySpec)

/-- ITS FALSE NEIGHBOUR: 'it returns false'. Refute it at one input. -/
def fnExactPowerEntryWrong : ChangeSpec := { name := "fnExactPowerEntry", fn := fun _ => fun
  | [d1, d2, d3, d4] => { results := [.lit (.bool false)], args := [d1, d2, d3, d4] }
  | _ => none }
def FnExactPowerEntryWrongFalsely : Prop := fnExactPowerEntryRow.holds Try.pinned (OpenSpec.ofChange fnExactPowerEntryWrong)

/-- 'laws.FnExactShiftVector': WHATEVER THE INPUT: true; the input reads as it did. -/
def fnExactShiftVectorSpec : ChangeSpec := { name := "fnExactShiftVector", fn := fun _ => fun
  | [d1, d2] => { results := [.lit (.bool true)], args := [d1, d2] }
  | _ => none }
def fnExactShiftVectorRow : OpenClaim := { program := "ytcofjjipjcekjab", sum := "66a55e30ff2f0258da84ea05dfc612a64c07eb8ceed741d04f0d350637988a04", func := "loop.example/g00941/laws.FnExactShiftVector", spec := "fnExactShiftVector", unfollowed := true, recurses := true, apart := false }
def FnExactShiftVectorSaid : Prop := fnExactShiftVectorRow.holds Try.pinned (OpenSpec.ofChange fnExactShiftVectorSpec)

/-- ITS FALSE NEIGHBOUR: 'it returns false'. Refute it at one input. -/
def fnExactShiftVectorWrong : ChangeSpec := { name := "fnExactShiftVector", fn := fun _ => fun
  | [d1, d2] => { results := [.lit (.bool false)], args := [d1, d2] }
  | _ => none }
def FnExactShiftVectorWrongFalsely : Prop := fnExactShiftVectorRow.holds Try.pinned (OpenSpec.ofChange fnExactShiftVectorWrong)

/-- 'laws.FnExactSteadyState': WHATEVER THE INPUT: true; the input reads as it did. -/
def fnExactSteadyStateSpec : ChangeSpec := { name := "fnExactSteadyState", fn := fun _ => fun
  | [d1, d2] => { results := [.lit (.bool true)], args := [d1, d2] }
  | _ => none }
def fnExactSteadyStateRow : OpenClaim := { program := "ytcofjjipjcekjab", sum := "66a55e30ff2f0258da84ea05dfc612a64c07eb8ceed741d04f0d350637988a04", func := "loop.example/g00941/laws.FnExactSteadyState", spec := "fnExactSteadyState", unfollowed := true, recurses := true, apart := false }
def FnExactSteadyStateSaid : Prop := fnExactSteadyStateRow.holds Try.pinned (OpenSpec.ofChange fnExactSteadyStateSpec)

/-- ITS FALSE NEIGHBOUR: 'it returns false'. Refute it at one input. -/
def fnExactSteadyStateWrong : ChangeSpec := { name := "fnExactSteadyState", fn := fun _ => fun
  | [d1, d2] => { results := [.lit (.bool false)], args := [d1, d2] }
  | _ => none }
def FnExactSteadyStateWrongFalsely : Prop := fnExactSteadyStateRow.holds Try.pinned (OpenSpec.ofChange fnExactSteadyStateWrong)

/-- 'laws.FnOrbitRates': WHATEVER THE INPUT: true; the input reads as it did. -/
def fnOrbitRatesSpec : ChangeSpec := { name := "fnOrbitRates", fn := fun _ => fun
  | [d] => { results := [.lit (.bool true)], args := [d] }
  | _ => none }
def fnOrbitRatesRow : OpenClaim := { program := "ytcofjjipjcekjab", sum := "66a55e30ff2f0258da84ea05dfc612a64c07eb8ceed741d04f0d350637988a04", func := "loop.example/g00941/laws.FnOrbitRates", spec := "fnOrbitRates", unfollowed := true, recurses := true, apart := false }
def FnOrbitRatesSaid : Prop := fnOrbitRatesRow.holds Try.pinned (OpenSpec.ofChange fnOrbitRatesSpec)

/-- ITS FALSE NEIGHBOUR: 'it returns false'. Refute it at one input. -/
def fnOrbitRatesWrong : ChangeSpec := { name := "fnOrbitRates", fn := fun _ => fun
  | [d] => { results := [.lit (.bool false)], args := [d] }
  | _ => none }
def FnOrbitRatesWrongFalsely : Prop := fnOrbitRatesRow.holds Try.pinned (OpenSpec.ofChange fnOrbitRatesWrong)

/- THE SECOND FORM. 'bulk': how many values and letters a reading holds, each counted each time it is reached (what is shared counts as often as it is met; a slice's spare places count too). A statement '..UptoSaid' is the law's where the arguments, and the package variables that the reading takes, are together of bulk at most 1048576: NARROWER than '..Said'. Prove '..Said' where nothing that the law and all that it calls make is longer than what came in: it says more and counts as full. Else prove '..UptoSaid'. A law counts once. -/
mutual
def uptoBulk {H : Type} : DataW H → Nat
  | .lit (.string bytes) => bytes.length + 1
  | .lit _ => 1
  | .nil => 1
  | .ptr d => uptoBulk d + 1
  | .slice elems spare => uptoBulkAll elems + uptoBulkAll spare + 1
  | .agg parts => uptoBulkAll parts + 1
  | .iface _ d => uptoBulk d + 1
  | .map entries => uptoBulkEntries entries + 1
  | .held _ => 1
def uptoBulkAll {H : Type} : List (DataW H) → Nat
  | [] => 0
  | d :: r => uptoBulk d + uptoBulkAll r
def uptoBulkEntries {H : Type} : List (Lit × DataW H) → Nat
  | [] => 0
  | x :: r => uptoBulkEntry x + uptoBulkEntries r
def uptoBulkEntry {H : Type} : Lit × DataW H → Nat
  | (.string bytes, d) => bytes.length + uptoBulk d + 1
  | (_, d) => uptoBulk d + 1
 end
def uptoSmall : (H : Type) → List (DataW H) → Bool := fun _ ds => decide (uptoBulkAll ds ≤ 1048576)
def OpenSpec.upto (s : _root_.Go.ChangeSpec) : _root_.Go.OpenSpec := { _root_.Go.OpenSpec.ofChange s with cond := some uptoSmall }

/-- 'laws.FnOrbits', WHERE WHAT IT READS IS OF BULK AT MOST 1048576: true; the input reads as it did. -/
def fnOrbitsUptoRow : OpenClaim := { program := "ytcofjjipjcekjab", sum := "66a55e30ff2f0258da84ea05dfc612a64c07eb8ceed741d04f0d350637988a04", func := "loop.example/g00941/laws.FnOrbits", spec := "fnOrbits", unfollowed := true, recurses := true, apart := false, narrowed := true }
def FnOrbitsUptoSaid : Prop := fnOrbitsUptoRow.holds Try.pinned (OpenSpec.upto fnOrbitsSpec)

/-- 'laws.FnGreatPowers', WHERE WHAT IT READS IS OF BULK AT MOST 1048576: true; the input reads as it did. -/
def fnGreatPowersUptoRow : OpenClaim := { program := "ytcofjjipjcekjab", sum := "66a55e30ff2f0258da84ea05dfc612a64c07eb8ceed741d04f0d350637988a04", func := "loop.example/g00941/laws.FnGreatPowers", spec := "fnGreatPowers", unfollowed := true, recurses := true, apart := false, narrowed := true }
def FnGreatPowersUptoSaid : Prop := fnGreatPowersUptoRow.holds Try.pinned (OpenSpec.upto fnGreatPowersSpec)

/-- 'laws.FnExactOrbitOf', WHERE WHAT IT READS IS OF BULK AT MOST 1048576: true; the input reads as it did. -/
def fnExactOrbitOfUptoRow : OpenClaim := { program := "ytcofjjipjcekjab", sum := "66a55e30ff2f0258da84ea05dfc612a64c07eb8ceed741d04f0d350637988a04", func := "loop.example/g00941/laws.FnExactOrbitOf", spec := "fnExactOrbitOf", unfollowed := true, recurses := true, apart := false, narrowed := true }
def FnExactOrbitOfUptoSaid : Prop := fnExactOrbitOfUptoRow.holds Try.pinned (OpenSpec.upto fnExactOrbitOfSpec)

/-- 'laws.FnExactPowersRepeat', WHERE WHAT IT READS IS OF BULK AT MOST 1048576: true; the input reads as it did. -/
def fnExactPowersRepeatUptoRow : OpenClaim := { program := "ytcofjjipjcekjab", sum := "66a55e30ff2f0258da84ea05dfc612a64c07eb8ceed741d04f0d350637988a04", func := "loop.example/g00941/laws.FnExactPowersRepeat", spec := "fnExactPowersRepeat", unfollowed := true, recurses := true, apart := false, narrowed := true }
def FnExactPowersRepeatUptoSaid : Prop := fnExactPowersRepeatUptoRow.holds Try.pinned (OpenSpec.upto fnExactPowersRepeatSpec)

/-- 'laws.FnExactOrbitRepeats', WHERE WHAT IT READS IS OF BULK AT MOST 1048576: true; the input reads as it did. -/
def fnExactOrbitRepeatsUptoRow : OpenClaim := { program := "ytcofjjipjcekjab", sum := "66a55e30ff2f0258da84ea05dfc612a64c07eb8ceed741d04f0d350637988a04", func := "loop.example/g00941/laws.FnExactOrbitRepeats", spec := "fnExactOrbitRepeats", unfollowed := true, recurses := true, apart := false, narrowed := true }
def FnExactOrbitRepeatsUptoSaid : Prop := fnExactOrbitRepeatsUptoRow.holds Try.pinned (OpenSpec.upto fnExactOrbitRepeatsSpec)

/-- 'laws.FnExactIsRepeat', WHERE WHAT IT READS IS OF BULK AT MOST 1048576: true; the input reads as it did. -/
def fnExactIsRepeatUptoRow : OpenClaim := { program := "ytcofjjipjcekjab", sum := "66a55e30ff2f0258da84ea05dfc612a64c07eb8ceed741d04f0d350637988a04", func := "loop.example/g00941/laws.FnExactIsRepeat", spec := "fnExactIsRepeat", unfollowed := true, recurses := true, apart := false, narrowed := true }
def FnExactIsRepeatUptoSaid : Prop := fnExactIsRepeatUptoRow.holds Try.pinned (OpenSpec.upto fnExactIsRepeatSpec)

/-- 'laws.FnExactOrbitRate', WHERE WHAT IT READS IS OF BULK AT MOST 1048576: true; the input reads as it did. -/
def fnExactOrbitRateUptoRow : OpenClaim := { program := "ytcofjjipjcekjab", sum := "66a55e30ff2f0258da84ea05dfc612a64c07eb8ceed741d04f0d350637988a04", func := "loop.example/g00941/laws.FnExactOrbitRate", spec := "fnExactOrbitRate", unfollowed := true, recurses := true, apart := false, narrowed := true }
def FnExactOrbitRateUptoSaid : Prop := fnExactOrbitRateUptoRow.holds Try.pinned (OpenSpec.upto fnExactOrbitRateSpec)

/-- 'laws.FnExactPowerEntry', WHERE WHAT IT READS IS OF BULK AT MOST 1048576: true; the input reads as it did. -/
def fnExactPowerEntryUptoRow : OpenClaim := { program := "ytcofjjipjcekjab", sum := "66a55e30ff2f0258da84ea05dfc612a64c07eb8ceed741d04f0d350637988a04", func := "loop.example/g00941/laws.FnExactPowerEntry", spec := "fnExactPowerEntry", unfollowed := true, recurses := true, apart := false, narrowed := true }
def FnExactPowerEntryUptoSaid : Prop := fnExactPowerEntryUptoRow.holds Try.pinned (OpenSpec.upto fnExactPowerEntrySpec)

/-- 'laws.FnExactShiftVector', WHERE WHAT IT READS IS OF BULK AT MOST 1048576: true; the input reads as it did. -/
def fnExactShiftVectorUptoRow : OpenClaim := { program := "ytcofjjipjcekjab", sum := "66a55e30ff2f0258da84ea05dfc612a64c07eb8ceed741d04f0d350637988a04", func := "loop.example/g00941/laws.FnExactShiftVector", spec := "fnExactShiftVector", unfollowed := true, recurses := true, apart := false, narrowed := true }
def FnExactShiftVectorUptoSaid : Prop := fnExactShiftVectorUptoRow.holds Try.pinned (OpenSpec.upto fnExactShiftVectorSpec)

/-- 'laws.FnExactSteadyState', WHERE WHAT IT READS IS OF BULK AT MOST 1048576: true; the input reads as it did. -/
def fnExactSteadyStateUptoRow : OpenClaim := { program := "ytcofjjipjcekjab", sum := "66a55e30ff2f0258da84ea05dfc612a64c07eb8ceed741d04f0d350637988a04", func := "loop.example/g00941/laws.FnExactSteadyState", spec := "fnExactSteadyState", unfollowed := true, recurses := true, apart := false, narrowed := true }
def FnExactSteadyStateUptoSaid : Prop := fnExactSteadyStateUptoRow.holds Try.pinned (OpenSpec.upto fnExactSteadyStateSpec)

/-- 'laws.FnOrbitRates', WHERE WHAT IT READS IS OF BULK AT MOST 1048576: true; the input reads as it did. -/
def fnOrbitRatesUptoRow : OpenClaim := { program := "ytcofjjipjcekjab", sum := "66a55e30ff2f0258da84ea05dfc612a64c07eb8ceed741d04f0d350637988a04", func := "loop.example/g00941/laws.FnOrbitRates", spec := "fnOrbitRates", unfollowed := true, recurses := true, apart := false, narrowed := true }
def FnOrbitRatesUptoSaid : Prop := fnOrbitRatesUptoRow.holds Try.pinned (OpenSpec.upto fnOrbitRatesSpec)

end Rows
end Go.Proofs.Ytcofjjipjcekjab
