/-
  No cell of these rows narrows 'for every input' (looked for: loops, veiled, ifaces, maps, wideKeys, modest, calm, conditions, laid).
  DERIVED. THE GIVEN ROWS OF THIS SEAT. 8 by the template 'for every input the law returns true; each argument reads behind the call as it read before'; 0 by the template 'total and deterministic' (their statements: YtmhpgnndjagogaaGreatTotals.lean).
  GIVEN WITH THE SEED: the statements are not yours to turn. If you find one false, say at which input.
  Laid BY PROGRAM, IN A SANDBOX (cutbox-rows.mjs): the forced cells as the released guide's own fill.sh prints them over the translation 76b1db3e34dd6074… (all of the seat's roots in one cut). By AI agents, Wed Nov 11 2026. No macro, syntax, notation, axiom, sorry.
-/
import Derived.Test.YtmhpgnndjagogaaGreatChecked
import GoSem.Claim
import GoSem.ClaimJoined
import GoSem.ClaimMapViews
import Derived.JoinedTies
import Derived.KernelRfl
namespace Go.Proofs.YtmhpgnndjagogaaGreat
/- THE CELL 'sum', in the pinned program and in every row, IS THE sha256 OF THE DUMP (.gsa) THAT YtmhpgnndjagogaaGreatProg.lean LOADS. Nothing in Lean hashes anything: it is a label: what it is worth is what the hold of that sum in a sandbox is worth. -/
noncomputable def Tryz.pinned : Pinned := { name := "ytmhpgnndjagogaagreat", sum := "76b1db3e34dd60745b80dd1fabc5447a8180e3fd4ac040d306c11f306cef73c0", checked := Tryz.checked }
namespace Rows
def none {H : Type} : Left H := { results := [], args := [] }

/-- 'laws.FnMeanCertificates': WHATEVER THE INPUT: true; the input reads as it did. -/
def fnMeanCertificatesSpec : ChangeSpec := { name := "fnMeanCertificates", fn := fun _ => fun
  | [d] => { results := [.lit (.bool true)], args := [d] }
  | _ => none }
def fnMeanCertificatesRow : OpenClaim := { program := "ytmhpgnndjagogaagreat", sum := "76b1db3e34dd60745b80dd1fabc5447a8180e3fd4ac040d306c11f306cef73c0", func := "loop.example/g00941/laws.FnMeanCertificates", spec := "fnMeanCertificates", unfollowed := true, recurses := true, plainKeys := false, apart := false }
def FnMeanCertificatesSaid : Prop := fnMeanCertificatesRow.holds Tryz.pinned (OpenSpec.ofChange fnMeanCertificatesSpec)

/-- ITS FALSE NEIGHBOUR: 'it returns false'. Refute it at one input. -/
def fnMeanCertificatesWrong : ChangeSpec := { name := "fnMeanCertificates", fn := fun _ => fun
  | [d] => { results := [.lit (.bool false)], args := [d] }
  | _ => none }
def FnMeanCertificatesWrongFalsely : Prop := fnMeanCertificatesRow.holds Tryz.pinned (OpenSpec.ofChange fnMeanCertificatesWrong)

/-- 'laws.FnPotentials': WHATEVER THE INPUT: true; the input reads as it did. -/
def fnPotentialsSpec : ChangeSpec := { name := "fnPotentials", fn := fun _ => fun
  | [d] => { results := [.lit (.bool true)], args := [d] }
  | _ => none }
def fnPotentialsRow : OpenClaim := { program := "ytmhpgnndjagogaagreat", sum := "76b1db3e34dd60745b80dd1fabc5447a8180e3fd4ac040d306c11f306cef73c0", func := "loop.example/g00941/laws.FnPotentials", spec := "fnPotentials", unfollowed := true, recurses := true, plainKeys := false, apart := false }
def FnPotentialsSaid : Prop := fnPotentialsRow.holds Tryz.pinned (OpenSpec.ofChange fnPotentialsSpec)

/-- ITS FALSE NEIGHBOUR: 'it returns false'. Refute it at one input. -/
def fnPotentialsWrong : ChangeSpec := { name := "fnPotentials", fn := fun _ => fun
  | [d] => { results := [.lit (.bool false)], args := [d] }
  | _ => none }
def FnPotentialsWrongFalsely : Prop := fnPotentialsRow.holds Tryz.pinned (OpenSpec.ofChange fnPotentialsWrong)

/-- 'laws.FnPeriods': WHATEVER THE INPUT: true; the input reads as it did. -/
def fnPeriodsSpec : ChangeSpec := { name := "fnPeriods", fn := fun _ => fun
  | [d] => { results := [.lit (.bool true)], args := [d] }
  | _ => none }
def fnPeriodsRow : OpenClaim := { program := "ytmhpgnndjagogaagreat", sum := "76b1db3e34dd60745b80dd1fabc5447a8180e3fd4ac040d306c11f306cef73c0", func := "loop.example/g00941/laws.FnPeriods", spec := "fnPeriods", unfollowed := true, recurses := true, plainKeys := false, apart := false }
def FnPeriodsSaid : Prop := fnPeriodsRow.holds Tryz.pinned (OpenSpec.ofChange fnPeriodsSpec)

/-- ITS FALSE NEIGHBOUR: 'it returns false'. Refute it at one input. -/
def fnPeriodsWrong : ChangeSpec := { name := "fnPeriods", fn := fun _ => fun
  | [d] => { results := [.lit (.bool false)], args := [d] }
  | _ => none }
def FnPeriodsWrongFalsely : Prop := fnPeriodsRow.holds Tryz.pinned (OpenSpec.ofChange fnPeriodsWrong)

/-- 'laws.FnColumns': WHATEVER THE INPUT: true; the input reads as it did. -/
def fnColumnsSpec : ChangeSpec := { name := "fnColumns", fn := fun _ => fun
  | [d] => { results := [.lit (.bool true)], args := [d] }
  | _ => none }
def fnColumnsRow : OpenClaim := { program := "ytmhpgnndjagogaagreat", sum := "76b1db3e34dd60745b80dd1fabc5447a8180e3fd4ac040d306c11f306cef73c0", func := "loop.example/g00941/laws.FnColumns", spec := "fnColumns", unfollowed := true, recurses := true, plainKeys := false, apart := false }
def FnColumnsSaid : Prop := fnColumnsRow.holds Tryz.pinned (OpenSpec.ofChange fnColumnsSpec)

/-- ITS FALSE NEIGHBOUR: 'it returns false'. Refute it at one input. -/
def fnColumnsWrong : ChangeSpec := { name := "fnColumns", fn := fun _ => fun
  | [d] => { results := [.lit (.bool false)], args := [d] }
  | _ => none }
def FnColumnsWrongFalsely : Prop := fnColumnsRow.holds Tryz.pinned (OpenSpec.ofChange fnColumnsWrong)

/-- 'laws.FnExactCriticalComponents': WHATEVER THE INPUT: true; the input reads as it did. -/
def fnExactCriticalComponentsSpec : ChangeSpec := { name := "fnExactCriticalComponents", fn := fun _ => fun
  | [d] => { results := [.lit (.bool true)], args := [d] }
  | _ => none }
def fnExactCriticalComponentsRow : OpenClaim := { program := "ytmhpgnndjagogaagreat", sum := "76b1db3e34dd60745b80dd1fabc5447a8180e3fd4ac040d306c11f306cef73c0", func := "loop.example/g00941/laws.FnExactCriticalComponents", spec := "fnExactCriticalComponents", unfollowed := true, recurses := true, plainKeys := false, apart := false }
def FnExactCriticalComponentsSaid : Prop := fnExactCriticalComponentsRow.holds Tryz.pinned (OpenSpec.ofChange fnExactCriticalComponentsSpec)

/-- ITS FALSE NEIGHBOUR: 'it returns false'. Refute it at one input. -/
def fnExactCriticalComponentsWrong : ChangeSpec := { name := "fnExactCriticalComponents", fn := fun _ => fun
  | [d] => { results := [.lit (.bool false)], args := [d] }
  | _ => none }
def FnExactCriticalComponentsWrongFalsely : Prop := fnExactCriticalComponentsRow.holds Tryz.pinned (OpenSpec.ofChange fnExactCriticalComponentsWrong)

/-- 'laws.FnExactPeriodAt': WHATEVER THE INPUT: true; the input reads as it did. -/
def fnExactPeriodAtSpec : ChangeSpec := { name := "fnExactPeriodAt", fn := fun _ => fun
  | [d1, d2] => { results := [.lit (.bool true)], args := [d1, d2] }
  | _ => none }
def fnExactPeriodAtRow : OpenClaim := { program := "ytmhpgnndjagogaagreat", sum := "76b1db3e34dd60745b80dd1fabc5447a8180e3fd4ac040d306c11f306cef73c0", func := "loop.example/g00941/laws.FnExactPeriodAt", spec := "fnExactPeriodAt", unfollowed := true, recurses := true, plainKeys := false, apart := false }
def FnExactPeriodAtSaid : Prop := fnExactPeriodAtRow.holds Tryz.pinned (OpenSpec.ofChange fnExactPeriodAtSpec)

/-- ITS FALSE NEIGHBOUR: 'it returns false'. Refute it at one input. -/
def fnExactPeriodAtWrong : ChangeSpec := { name := "fnExactPeriodAt", fn := fun _ => fun
  | [d1, d2] => { results := [.lit (.bool false)], args := [d1, d2] }
  | _ => none }
def FnExactPeriodAtWrongFalsely : Prop := fnExactPeriodAtRow.holds Tryz.pinned (OpenSpec.ofChange fnExactPeriodAtWrong)

/-- 'laws.FnExactCyclicity': WHATEVER THE INPUT: true; the input reads as it did. -/
def fnExactCyclicitySpec : ChangeSpec := { name := "fnExactCyclicity", fn := fun _ => fun
  | [d] => { results := [.lit (.bool true)], args := [d] }
  | _ => none }
def fnExactCyclicityRow : OpenClaim := { program := "ytmhpgnndjagogaagreat", sum := "76b1db3e34dd60745b80dd1fabc5447a8180e3fd4ac040d306c11f306cef73c0", func := "loop.example/g00941/laws.FnExactCyclicity", spec := "fnExactCyclicity", unfollowed := true, recurses := true, plainKeys := false, apart := false }
def FnExactCyclicitySaid : Prop := fnExactCyclicityRow.holds Tryz.pinned (OpenSpec.ofChange fnExactCyclicitySpec)

/-- ITS FALSE NEIGHBOUR: 'it returns false'. Refute it at one input. -/
def fnExactCyclicityWrong : ChangeSpec := { name := "fnExactCyclicity", fn := fun _ => fun
  | [d] => { results := [.lit (.bool false)], args := [d] }
  | _ => none }
def FnExactCyclicityWrongFalsely : Prop := fnExactCyclicityRow.holds Tryz.pinned (OpenSpec.ofChange fnExactCyclicityWrong)

/-- 'laws.FnExactEigenColumns': WHATEVER THE INPUT: true; the input reads as it did. -/
def fnExactEigenColumnsSpec : ChangeSpec := { name := "fnExactEigenColumns", fn := fun _ => fun
  | [d] => { results := [.lit (.bool true)], args := [d] }
  | _ => none }
def fnExactEigenColumnsRow : OpenClaim := { program := "ytmhpgnndjagogaagreat", sum := "76b1db3e34dd60745b80dd1fabc5447a8180e3fd4ac040d306c11f306cef73c0", func := "loop.example/g00941/laws.FnExactEigenColumns", spec := "fnExactEigenColumns", unfollowed := true, recurses := true, plainKeys := false, apart := false }
def FnExactEigenColumnsSaid : Prop := fnExactEigenColumnsRow.holds Tryz.pinned (OpenSpec.ofChange fnExactEigenColumnsSpec)

/-- ITS FALSE NEIGHBOUR: 'it returns false'. Refute it at one input. -/
def fnExactEigenColumnsWrong : ChangeSpec := { name := "fnExactEigenColumns", fn := fun _ => fun
  | [d] => { results := [.lit (.bool false)], args := [d] }
  | _ => none }
def FnExactEigenColumnsWrongFalsely : Prop := fnExactEigenColumnsRow.holds Tryz.pinned (OpenSpec.ofChange fnExactEigenColumnsWrong)

/- THE SECOND FORM. 'bulk': how many values and letters a reading holds, each counted each time it is reached (what is shared counts as often as it is met; a slice's spare places count too). A statement '..UptoSaid' is the law's where the arguments, and the package variables that the reading takes, are together of bulk at most 1048576: NARROWER than '..Said'. Prove '..Said' where nothing that the law and all that it calls make is longer than what came in: it says more and counts as full. Else prove '..UptoSaid'. A law counts once. -/
mutual
def uptoBulk {H : Type} : DataW H → Nat
  | .lit (.string bytes) => bytes.length + 1
  | .lit _ => 1
  | .nil => 1
  | .ptr d => uptoBulk d + 1
  | .slice elems spare => uptoBulkAll elems + uptoBulkAll spare + 1
  | .agg parts => uptoBulkAll parts + 1
  | .iface _ d => uptoBulk d + 1
  | .map entries => uptoBulkEntries entries + 1
  | .held _ => 1
def uptoBulkAll {H : Type} : List (DataW H) → Nat
  | [] => 0
  | d :: r => uptoBulk d + uptoBulkAll r
def uptoBulkEntries {H : Type} : List (Lit × DataW H) → Nat
  | [] => 0
  | x :: r => uptoBulkEntry x + uptoBulkEntries r
def uptoBulkEntry {H : Type} : Lit × DataW H → Nat
  | (.string bytes, d) => bytes.length + uptoBulk d + 1
  | (_, d) => uptoBulk d + 1
 end
def uptoSmall : (H : Type) → List (DataW H) → Bool := fun _ ds => decide (uptoBulkAll ds ≤ 1048576)
def OpenSpec.upto (s : _root_.Go.ChangeSpec) : _root_.Go.OpenSpec := { _root_.Go.OpenSpec.ofChange s with cond := some uptoSmall }

/-- 'laws.FnMeanCertificates', WHERE WHAT IT READS IS OF BULK AT MOST 1048576: true; the input reads as it did. -/
def fnMeanCertificatesUptoRow : OpenClaim := { program := "ytmhpgnndjagogaagreat", sum := "76b1db3e34dd60745b80dd1fabc5447a8180e3fd4ac040d306c11f306cef73c0", func := "loop.example/g00941/laws.FnMeanCertificates", spec := "fnMeanCertificates", unfollowed := true, recurses := true, plainKeys := false, apart := false, narrowed := true }
def FnMeanCertificatesUptoSaid : Prop := fnMeanCertificatesUptoRow.holds Tryz.pinned (OpenSpec.upto fnMeanCertificatesSpec)

/-- 'laws.FnPotentials', WHERE WHAT IT READS IS OF BULK AT MOST 1048576: true; the input reads as it did. -/
def fnPotentialsUptoRow : OpenClaim := { program := "ytmhpgnndjagogaagreat", sum := "76b1db3e34dd60745b80dd1fabc5447a8180e3fd4ac040d306c11f306cef73c0", func := "loop.example/g00941/laws.FnPotentials", spec := "fnPotentials", unfollowed := true, recurses := true, plainKeys := false, apart := false, narrowed := true }
def FnPotentialsUptoSaid : Prop := fnPotentialsUptoRow.holds Tryz.pinned (OpenSpec.upto fnPotentialsSpec)

/-- 'laws.FnPeriods', WHERE WHAT IT READS IS OF BULK AT MOST 1048576: true; the input reads as it did. -/
def fnPeriodsUptoRow : OpenClaim := { program := "ytmhpgnndjagogaagreat", sum := "76b1db3e34dd60745b80dd1fabc5447a8180e3fd4ac040d306c11f306cef73c0", func := "loop.example/g00941/laws.FnPeriods", spec := "fnPeriods", unfollowed := true, recurses := true, plainKeys := false, apart := false, narrowed := true }
def FnPeriodsUptoSaid : Prop := fnPeriodsUptoRow.holds Tryz.pinned (OpenSpec.upto fnPeriodsSpec)

/-- 'laws.FnColumns', WHERE WHAT IT READS IS OF BULK AT MOST 1048576: true; the input reads as it did. -/
def fnColumnsUptoRow : OpenClaim := { program := "ytmhpgnndjagogaagreat", sum := "76b1db3e34dd60745b80dd1fabc5447a8180e3fd4ac040d306c11f306cef73c0", func := "loop.example/g00941/laws.FnColumns", spec := "fnColumns", unfollowed := true, recurses := true, plainKeys := false, apart := false, narrowed := true }
def FnColumnsUptoSaid : Prop := fnColumnsUptoRow.holds Tryz.pinned (OpenSpec.upto fnColumnsSpec)

/-- 'laws.FnExactCriticalComponents', WHERE WHAT IT READS IS OF BULK AT MOST 1048576: true; the input reads as it did. -/
def fnExactCriticalComponentsUptoRow : OpenClaim := { program := "ytmhpgnndjagogaagreat", sum := "76b1db3e34dd60745b80dd1fabc5447a8180e3fd4ac040d306c11f306cef73c0", func := "loop.example/g00941/laws.FnExactCriticalComponents", spec := "fnExactCriticalComponents", unfollowed := true, recurses := true, plainKeys := false, apart := false, narrowed := true }
def FnExactCriticalComponentsUptoSaid : Prop := fnExactCriticalComponentsUptoRow.holds Tryz.pinned (OpenSpec.upto fnExactCriticalComponentsSpec)

/-- 'laws.FnExactPeriodAt', WHERE WHAT IT READS IS OF BULK AT MOST 1048576: true; the input reads as it did. -/
def fnExactPeriodAtUptoRow : OpenClaim := { program := "ytmhpgnndjagogaagreat", sum := "76b1db3e34dd60745b80dd1fabc5447a8180e3fd4ac040d306c11f306cef73c0", func := "loop.example/g00941/laws.FnExactPeriodAt", spec := "fnExactPeriodAt", unfollowed := true, recurses := true, plainKeys := false, apart := false, narrowed := true }
def FnExactPeriodAtUptoSaid : Prop := fnExactPeriodAtUptoRow.holds Tryz.pinned (OpenSpec.upto fnExactPeriodAtSpec)

/-- 'laws.FnExactCyclicity', WHERE WHAT IT READS IS OF BULK AT MOST 1048576: true; the input reads as it did. -/
def fnExactCyclicityUptoRow : OpenClaim := { program := "ytmhpgnndjagogaagreat", sum := "76b1db3e34dd60745b80dd1fabc5447a8180e3fd4ac040d306c11f306cef73c0", func := "loop.example/g00941/laws.FnExactCyclicity", spec := "fnExactCyclicity", unfollowed := true, recurses := true, plainKeys := false, apart := false, narrowed := true }
def FnExactCyclicityUptoSaid : Prop := fnExactCyclicityUptoRow.holds Tryz.pinned (OpenSpec.upto fnExactCyclicitySpec)

/-- 'laws.FnExactEigenColumns', WHERE WHAT IT READS IS OF BULK AT MOST 1048576: true; the input reads as it did. -/
def fnExactEigenColumnsUptoRow : OpenClaim := { program := "ytmhpgnndjagogaagreat", sum := "76b1db3e34dd60745b80dd1fabc5447a8180e3fd4ac040d306c11f306cef73c0", func := "loop.example/g00941/laws.FnExactEigenColumns", spec := "fnExactEigenColumns", unfollowed := true, recurses := true, plainKeys := false, apart := false, narrowed := true }
def FnExactEigenColumnsUptoSaid : Prop := fnExactEigenColumnsUptoRow.holds Tryz.pinned (OpenSpec.upto fnExactEigenColumnsSpec)

end Rows
end Go.Proofs.YtmhpgnndjagogaaGreat
