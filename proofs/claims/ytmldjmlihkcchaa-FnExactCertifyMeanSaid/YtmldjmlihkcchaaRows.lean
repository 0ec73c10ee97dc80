/-
  No cell of these rows narrows 'for every input' (looked for: loops, veiled, ifaces, maps, wideKeys, modest, calm, conditions, laid).
  DERIVED. THE GIVEN ROWS OF THIS SEAT. 9 by the template 'for every input the law returns true; each argument reads behind the call as it read before'; 0 by the template 'total and deterministic' (their statements: YtmldjmlihkcchaaTotals.lean).
  GIVEN WITH THE SEED: the statements are not yours to turn. If you find one false, say at which input.
  Laid BY PROGRAM, IN A SANDBOX (cutbox-rows.mjs): the forced cells as the released guide's own fill.sh prints them over the translation cca75559b92b02a5… (all of the seat's roots in one cut). By AI agents, Wed Nov 11 2026. No macro, syntax, notation, axiom, sorry.
-/
import Derived.Test.YtmldjmlihkcchaaChecked
import GoSem.Claim
import GoSem.ClaimJoined
import GoSem.ClaimMapViews
import Derived.JoinedTies
import Derived.KernelRfl
namespace Go.Proofs.Ytmldjmlihkcchaa
/- THE CELL 'sum', in the pinned program and in every row, IS THE sha256 OF THE DUMP (.gsa) THAT YtmldjmlihkcchaaProg.lean LOADS. Nothing in Lean hashes anything: it is a label: what it is worth is what the hold of that sum in a sandbox is worth. -/
noncomputable def Try.pinned : Pinned := { name := "ytmldjmlihkcchaa", sum := "cca75559b92b02a5521b914f2e6471da049698405743cd13fe66ad61c1f88659", checked := Try.checked }
namespace Rows
def none {H : Type} : Left H := { results := [], args := [] }

/-- 'laws.FnMeans': WHATEVER THE INPUT: true; the input reads as it did. -/
def fnMeansSpec : ChangeSpec := { name := "fnMeans", fn := fun _ => fun
  | [d] => { results := [.lit (.bool true)], args := [d] }
  | _ => none }
def fnMeansRow : OpenClaim := { program := "ytmldjmlihkcchaa", sum := "cca75559b92b02a5521b914f2e6471da049698405743cd13fe66ad61c1f88659", func := "loop.example/g00941/laws.FnMeans", spec := "fnMeans", unfollowed := true, recurses := true, apart := false }
def FnMeansSaid : Prop := fnMeansRow.holds Try.pinned (OpenSpec.ofChange fnMeansSpec)

/-- ITS FALSE NEIGHBOUR: 'it returns false'. Refute it at one input. -/
def fnMeansWrong : ChangeSpec := { name := "fnMeans", fn := fun _ => fun
  | [d] => { results := [.lit (.bool false)], args := [d] }
  | _ => none }
def FnMeansWrongFalsely : Prop := fnMeansRow.holds Try.pinned (OpenSpec.ofChange fnMeansWrong)

/-- 'laws.FnExactCycleMean': WHATEVER THE INPUT: true; the input reads as it did. -/
def fnExactCycleMeanSpec : ChangeSpec := { name := "fnExactCycleMean", fn := fun _ => fun
  | [d] => { results := [.lit (.bool true)], args := [d] }
  | _ => none }
def fnExactCycleMeanRow : OpenClaim := { program := "ytmldjmlihkcchaa", sum := "cca75559b92b02a5521b914f2e6471da049698405743cd13fe66ad61c1f88659", func := "loop.example/g00941/laws.FnExactCycleMean", spec := "fnExactCycleMean", unfollowed := true, recurses := true, apart := false }
def FnExactCycleMeanSaid : Prop := fnExactCycleMeanRow.holds Try.pinned (OpenSpec.ofChange fnExactCycleMeanSpec)

/-- ITS FALSE NEIGHBOUR: 'it returns false'. Refute it at one input. -/
def fnExactCycleMeanWrong : ChangeSpec := { name := "fnExactCycleMean", fn := fun _ => fun
  | [d] => { results := [.lit (.bool false)], args := [d] }
  | _ => none }
def FnExactCycleMeanWrongFalsely : Prop := fnExactCycleMeanRow.holds Try.pinned (OpenSpec.ofChange fnExactCycleMeanWrong)

/-- 'laws.FnExactTableMean': WHATEVER THE INPUT: true; the input reads as it did. -/
def fnExactTableMeanSpec : ChangeSpec := { name := "fnExactTableMean", fn := fun _ => fun
  | [d] => { results := [.lit (.bool true)], args := [d] }
  | _ => none }
def fnExactTableMeanRow : OpenClaim := { program := "ytmldjmlihkcchaa", sum := "cca75559b92b02a5521b914f2e6471da049698405743cd13fe66ad61c1f88659", func := "loop.example/g00941/laws.FnExactTableMean", spec := "fnExactTableMean", unfollowed := true, recurses := true, apart := false }
def FnExactTableMeanSaid : Prop := fnExactTableMeanRow.holds Try.pinned (OpenSpec.ofChange fnExactTableMeanSpec)

/-- ITS FALSE NEIGHBOUR: 'it returns false'. Refute it at one input. -/
def fnExactTableMeanWrong : ChangeSpec := { name := "fnExactTableMean", fn := fun _ => fun
  | [d] => { results := [.lit (.bool false)], args := [d] }
  | _ => none }
def FnExactTableMeanWrongFalsely : Prop := fnExactTableMeanRow.holds Try.pinned (OpenSpec.ofChange fnExactTableMeanWrong)

/-- 'laws.FnExactBestCycle': WHATEVER THE INPUT: true; the input reads as it did. -/
def fnExactBestCycleSpec : ChangeSpec := { name := "fnExactBestCycle", fn := fun _ => fun
  | [d] => { results := [.lit (.bool true)], args := [d] }
  | _ => none }
def fnExactBestCycleRow : OpenClaim := { program := "ytmldjmlihkcchaa", sum := "cca75559b92b02a5521b914f2e6471da049698405743cd13fe66ad61c1f88659", func := "loop.example/g00941/laws.FnExactBestCycle", spec := "fnExactBestCycle", unfollowed := true, recurses := true, apart := false }
def FnExactBestCycleSaid : Prop := fnExactBestCycleRow.holds Try.pinned (OpenSpec.ofChange fnExactBestCycleSpec)

/-- ITS FALSE NEIGHBOUR: 'it returns false'. Refute it at one input. -/
def fnExactBestCycleWrong : ChangeSpec := { name := "fnExactBestCycle", fn := fun _ => fun
  | [d] => { results := [.lit (.bool false)], args := [d] }
  | _ => none }
def FnExactBestCycleWrongFalsely : Prop := fnExactBestCycleRow.holds Try.pinned (OpenSpec.ofChange fnExactBestCycleWrong)

/-- 'laws.FnExactCertifyMean': WHATEVER THE INPUT: true; the input reads as it did. -/
def fnExactCertifyMeanSpec : ChangeSpec := { name := "fnExactCertifyMean", fn := fun _ => fun
  | [d] => { results := [.lit (.bool true)], args := [d] }
  | _ => none }
def fnExactCertifyMeanRow : OpenClaim := { program := "ytmldjmlihkcchaa", sum := "cca75559b92b02a5521b914f2e6471da049698405743cd13fe66ad61c1f88659", func := "loop.example/g00941/laws.FnExactCertifyMean", spec := "fnExactCertifyMean", unfollowed := true, recurses := true, apart := false }
def FnExactCertifyMeanSaid : Prop := fnExactCertifyMeanRow.holds Try.pinned (OpenSpec.ofChange fnExactCertifyMeanSpec)

/-- ITS FALSE NEIGHBOUR: 'it returns false'. Refute it at one input. -/
def fnExactCertifyMeanWrong : ChangeSpec := { name := "fnExactCertifyMean", fn := fun _ => fun
  | [d] => { results := [.lit (.bool false)], args := [d] }
  | _ => none }
def FnExactCertifyMeanWrongFalsely : Prop := fnExactCertifyMeanRow.holds Try.pinned (OpenSpec.ofChange fnExactCertifyMeanWrong)

/-- 'laws.FnExactIsPotential': WHATEVER THE INPUT: true; the input reads as it did. -/
def fnExactIsPotentialSpec : ChangeSpec := { name := "fnExactIsPotential", fn := fun _ => fun
  | [d1, d2, d3] => { results := [.lit (.bool true)], args := [d1, d2, d3] }
  | _ => none }
def fnExactIsPotentialRow : OpenClaim := { program := "ytmldjmlihkcchaa", sum := "cca75559b92b02a5521b914f2e6471da049698405743cd13fe66ad61c1f88659", func := "loop.example/g00941/laws.FnExactIsPotential", spec := "fnExactIsPotential", unfollowed := true, recurses := true, apart := false }
def FnExactIsPotentialSaid : Prop := fnExactIsPotentialRow.holds Try.pinned (OpenSpec.ofChange fnExactIsPotentialSpec)

/-- ITS FALSE NEIGHBOUR: 'it returns false'. Refute it at one input. -/
def fnExactIsPotentialWrong : ChangeSpec := { name := "fnExactIsPotential", fn := fun _ => fun
  | [d1, d2, d3] => { results := [.lit (.bool false)], args := [d1, d2, d3] }
  | _ => none }
def FnExactIsPotentialWrongFalsely : Prop := fnExactIsPotentialRow.holds Try.pinned (OpenSpec.ofChange fnExactIsPotentialWrong)

/-- 'laws.FnUpstream': WHATEVER THE INPUT: true; the input reads as it did. -/
def fnUpstreamSpec : ChangeSpec := { name := "fnUpstream", fn := fun _ => fun
  | [d] => { results := [.lit (.bool true)], args := [d] }
  | _ => none }
def fnUpstreamRow : OpenClaim := { program := "ytmldjmlihkcchaa", sum := "cca75559b92b02a5521b914f2e6471da049698405743cd13fe66ad61c1f88659", func := "loop.example/g00941/laws.FnUpstream", spec := "fnUpstream", unfollowed := true, recurses := true, apart := false }
def FnUpstreamSaid : Prop := fnUpstreamRow.holds Try.pinned (OpenSpec.ofChange fnUpstreamSpec)

/-- ITS FALSE NEIGHBOUR: 'it returns false'. Refute it at one input. -/
def fnUpstreamWrong : ChangeSpec := { name := "fnUpstream", fn := fun _ => fun
  | [d] => { results := [.lit (.bool false)], args := [d] }
  | _ => none }
def FnUpstreamWrongFalsely : Prop := fnUpstreamRow.holds Try.pinned (OpenSpec.ofChange fnUpstreamWrong)

/-- 'laws.FnExactUpstreamMean': WHATEVER THE INPUT: true; the input reads as it did. -/
def fnExactUpstreamMeanSpec : ChangeSpec := { name := "fnExactUpstreamMean", fn := fun _ => fun
  | [d1, d2] => { results := [.lit (.bool true)], args := [d1, d2] }
  | _ => none }
def fnExactUpstreamMeanRow : OpenClaim := { program := "ytmldjmlihkcchaa", sum := "cca75559b92b02a5521b914f2e6471da049698405743cd13fe66ad61c1f88659", func := "loop.example/g00941/laws.FnExactUpstreamMean", spec := "fnExactUpstreamMean", unfollowed := true, recurses := true, apart := false }
def FnExactUpstreamMeanSaid : Prop := fnExactUpstreamMeanRow.holds Try.pinned (OpenSpec.ofChange fnExactUpstreamMeanSpec)

/-- ITS FALSE NEIGHBOUR: 'it returns false'. Refute it at one input. -/
def fnExactUpstreamMeanWrong : ChangeSpec := { name := "fnExactUpstreamMean", fn := fun _ => fun
  | [d1, d2] => { results := [.lit (.bool false)], args := [d1, d2] }
  | _ => none }
def FnExactUpstreamMeanWrongFalsely : Prop := fnExactUpstreamMeanRow.holds Try.pinned (OpenSpec.ofChange fnExactUpstreamMeanWrong)

/-- 'laws.FnExactEigenVector': WHATEVER THE INPUT: true; the input reads as it did. -/
def fnExactEigenVectorSpec : ChangeSpec := { name := "fnExactEigenVector", fn := fun _ => fun
  | [d] => { results := [.lit (.bool true)], args := [d] }
  | _ => none }
def fnExactEigenVectorRow : OpenClaim := { program := "ytmldjmlihkcchaa", sum := "cca75559b92b02a5521b914f2e6471da049698405743cd13fe66ad61c1f88659", func := "loop.example/g00941/laws.FnExactEigenVector", spec := "fnExactEigenVector", unfollowed := true, recurses := true, apart := false }
def FnExactEigenVectorSaid : Prop := fnExactEigenVectorRow.holds Try.pinned (OpenSpec.ofChange fnExactEigenVectorSpec)

/-- ITS FALSE NEIGHBOUR: 'it returns false'. Refute it at one input. -/
def fnExactEigenVectorWrong : ChangeSpec := { name := "fnExactEigenVector", fn := fun _ => fun
  | [d] => { results := [.lit (.bool false)], args := [d] }
  | _ => none }
def FnExactEigenVectorWrongFalsely : Prop := fnExactEigenVectorRow.holds Try.pinned (OpenSpec.ofChange fnExactEigenVectorWrong)

/- THE SECOND FORM. 'bulk': how many values and letters a reading holds, each counted each time it is reached (what is shared counts as often as it is met; a slice's spare places count too). A statement '..UptoSaid' is the law's where the arguments, and the package variables that the reading takes, are together of bulk at most 1048576: NARROWER than '..Said'. Prove '..Said' where nothing that the law and all that it calls make is longer than what came in: it says more and counts as full. Else prove '..UptoSaid'. A law counts once. -/
mutual
def uptoBulk {H : Type} : DataW H → Nat
  | .lit (.string bytes) => bytes.length + 1
  | .lit _ => 1
  | .nil => 1
  | .ptr d => uptoBulk d + 1
  | .slice elems spare => uptoBulkAll elems + uptoBulkAll spare + 1
  | .agg parts => uptoBulkAll parts + 1
  | .iface _ d => uptoBulk d + 1
  | .map entries => uptoBulkEntries entries + 1
  | .held _ => 1
def uptoBulkAll {H : Type} : List (DataW H) → Nat
  | [] => 0
  | d :: r => uptoBulk d + uptoBulkAll r
def uptoBulkEntries {H : Type} : List (Lit × DataW H) → Nat
  | [] => 0
  | x :: r => uptoBulkEntry x + uptoBulkEntries r
def uptoBulkEntry {H : Type} : Lit × DataW H → Nat
  | (.string bytes, d) => bytes.length + uptoBulk d + 1
  | (_, d) => uptoBulk d + 1
 end
def uptoSmall : (H : Type) → List (DataW H) → Bool := fun _ ds => decide (uptoBulkAll ds ≤ 1048576)
def OpenSpec.upto (s : _root_.Go.ChangeSpec) : _root_.Go.OpenSpec := { _root_.Go.OpenSpec.ofChange s with cond := some uptoSmall }

/-- 'laws.FnMeans', WHERE WHAT IT READS IS OF BULK AT MOST 1048576: true; the input reads as it did. -/
def fnMeansUptoRow : OpenClaim := { program := "ytmldjmlihkcchaa", sum := "cca75559b92b02a5521b914f2e6471da049698405743cd13fe66ad61c1f88659", func := "loop.example/g00941/laws.FnMeans", spec := "fnMeans", unfollowed := true, recurses := true, apart := false, narrowed := true }
def FnMeansUptoSaid : Prop := fnMeansUptoRow.holds Try.pinned (OpenSpec.upto fnMeansSpec)

/-- 'laws.FnExactCycleMean', WHERE WHAT IT READS IS OF BULK AT MOST 1048576: true; the input reads as it did. -/
def fnExactCycleMeanUptoRow : OpenClaim := { program := "ytmldjmlihkcchaa", sum := "cca75559b92b02a5521b914f2e6471da049698405743cd13fe66ad61c1f88659", func := "loop.example/g00941/laws.FnExactCycleMean", spec := "fnExactCycleMean", unfollowed := true, recurses := true, apart := false, narrowed := true }
def FnExactCycleMeanUptoSaid : Prop := fnExactCycleMeanUptoRow.holds Try.pinned (OpenSpec.upto fnExactCycleMeanSpec)

/-- 'laws.FnExactTableMean', WHERE WHAT IT READS IS OF BULK AT MOST 1048576: true; the input reads as it did. -/
def fnExactTableMeanUptoRow : OpenClaim := { program := "ytmldjmlihkcchaa", sum := "cca75559b92b02a5521b914f2e6471da049698405743cd13fe66ad61c1f88659", func := "loop.example/g00941/laws.FnExactTableMean", spec := "fnExactTableMean", unfollowed := true, recurses := true, apart := false, narrowed := true }
def FnExactTableMeanUptoSaid : Prop := fnExactTableMeanUptoRow.holds Try.pinned (OpenSpec.upto fnExactTableMeanSpec)

/-- 'laws.FnExactBestCycle', WHERE WHAT IT READS IS OF BULK AT MOST 1048576: true; the input reads as it did. -/
def fnExactBestCycleUptoRow : OpenClaim := { program := "ytmldjmlihkcchaa", sum := "cca75559b92b02a5521b914f2e6471da049698405743cd13fe66ad61c1f88659", func := "loop.example/g00941/laws.FnExactBestCycle", spec := "fnExactBestCycle", unfollowed := true, recurses := true, apart := false, narrowed := true }
def FnExactBestCycleUptoSaid : Prop := fnExactBestCycleUptoRow.holds Try.pinned (OpenSpec.upto fnExactBestCycleSpec)

/-- 'laws.FnExactCertifyMean', WHERE WHAT IT READS IS OF BULK AT MOST 1048576: true; the input reads as it did. -/
def fnExactCertifyMeanUptoRow : OpenClaim := { program := "ytmldjmlihkcchaa", sum := "cca75559b92b02a5521b914f2e6471da049698405743cd13fe66ad61c1f88659", func := "loop.example/g00941/laws.FnExactCertifyMean", spec := "fnExactCertifyMean", unfollowed := true, recurses := true, apart := false, narrowed := true }
def FnExactCertifyMeanUptoSaid : Prop := fnExactCertifyMeanUptoRow.holds Try.pinned (OpenSpec.upto fnExactCertifyMeanSpec)

/-- 'laws.FnExactIsPotential', WHERE WHAT IT READS IS OF BULK AT MOST 1048576: true; the input reads as it did. -/
def fnExactIsPotentialUptoRow : OpenClaim := { program := "ytmldjmlihkcchaa", sum := "cca75559b92b02a5521b914f2e6471da049698405743cd13fe66ad61c1f88659", func := "loop.example/g00941/laws.FnExactIsPotential", spec := "fnExactIsPotential", unfollowed := true, recurses := true, apart := false, narrowed := true }
def FnExactIsPotentialUptoSaid : Prop := fnExactIsPotentialUptoRow.holds Try.pinned (OpenSpec.upto fnExactIsPotentialSpec)

/-- 'laws.FnUpstream', WHERE WHAT IT READS IS OF BULK AT MOST 1048576: true; the input reads as it did. -/
def fnUpstreamUptoRow : OpenClaim := { program := "ytmldjmlihkcchaa", sum := "cca75559b92b02a5521b914f2e6471da049698405743cd13fe66ad61c1f88659", func := "loop.example/g00941/laws.FnUpstream", spec := "fnUpstream", unfollowed := true, recurses := true, apart := false, narrowed := true }
def FnUpstreamUptoSaid : Prop := fnUpstreamUptoRow.holds Try.pinned (OpenSpec.upto fnUpstreamSpec)

/-- 'laws.FnExactUpstreamMean', WHERE WHAT IT READS IS OF BULK AT MOST 1048576: true; the input reads as it did. -/
def fnExactUpstreamMeanUptoRow : OpenClaim := { program := "ytmldjmlihkcchaa", sum := "cca75559b92b02a5521b914f2e6471da049698405743cd13fe66ad61c1f88659", func := "loop.example/g00941/laws.FnExactUpstreamMean", spec := "fnExactUpstreamMean", unfollowed := true, recurses := true, apart := false, narrowed := true }
def FnExactUpstreamMeanUptoSaid : Prop := fnExactUpstreamMeanUptoRow.holds Try.pinned (OpenSpec.upto fnExactUpstreamMeanSpec)

/-- 'laws.FnExactEigenVector', WHERE WHAT IT READS IS OF BULK AT MOST 1048576: true; the input reads as it did. -/
def fnExactEigenVectorUptoRow : OpenClaim := { program := "ytmldjmlihkcchaa", sum := "cca75559b92b02a5521b914f2e6471da049698405743cd13fe66ad61c1f88659", func := "loop.example/g00941/laws.FnExactEigenVector", spec := "fnExactEigenVector", unfollowed := true, recurses := true, apart := false, narrowed := true }
def FnExactEigenVectorUptoSaid : Prop := fnExactEigenVectorUptoRow.holds Try.pinned (OpenSpec.upto fnExactEigenVectorSpec)

end Rows
end Go.Proofs.Ytmldjmlihkcchaa
