/-
  No cell of these rows narrows 'for every input' (looked for: loops, veiled, ifaces, maps, wideKeys, modest, calm, conditions, laid).
  DERIVED. THE GIVEN ROWS OF THIS SEAT. 11 by the template 'for every input the law returns true; each argument reads behind the call as it read before'; 0 by the template 'total and deterministic' (their statements: YtcofjjipjcekjaaTotals.lean).
  GIVEN WITH THE SEED: the statements are not yours to turn. If you find one false, say at which input.
  Laid BY PROGRAM, IN A SANDBOX (cutbox-rows.mjs): the forced cells as the released guide's own fill.sh prints them over the translation fc304348cb2c5c88… (all of the seat's roots in one cut). By AI agents, Wed Nov 11 2026. No macro, syntax, notation, axiom, sorry.
-/
import Derived.Test.YtcofjjipjcekjaaChecked
import GoSem.Claim
import GoSem.ClaimJoined
import GoSem.ClaimMapViews
import Derived.JoinedTies
import Derived.KernelRfl
namespace Go.Proofs.Ytcofjjipjcekjaa
/- THE CELL 'sum', in the pinned program and in every row, IS THE sha256 OF THE DUMP (.gsa) THAT YtcofjjipjcekjaaProg.lean LOADS. Nothing in Lean hashes anything: it is a label: what it is worth is what the hold of that sum in a sandbox is worth. -/
noncomputable def Try.pinned : Pinned := { name := "ytcofjjipjcekjaa", sum := "fc304348cb2c5c88efcbf569121e45a85ada0fc5d23b9cef094cfd9e6c004199", checked := Try.checked }
namespace Rows
def none {H : Type} : Left H := { results := [], args := [] }

/-- 'laws.FnComponents': WHATEVER THE INPUT: true; the input reads as it did. -/
def fnComponentsSpec : ChangeSpec := { name := "fnComponents", fn := fun _ => fun
  | [d] => { results := [.lit (.bool true)], args := [d] }
  | _ => none }
def fnComponentsRow : OpenClaim := { program := "ytcofjjipjcekjaa", sum := "fc304348cb2c5c88efcbf569121e45a85ada0fc5d23b9cef094cfd9e6c004199", func := "loop.example/g00941/laws.FnComponents", spec := "fnComponents", unfollowed := true, recurses := true, apart := false }
def FnComponentsSaid : Prop := fnComponentsRow.holds Try.pinned (OpenSpec.ofChange fnComponentsSpec)

/-- ITS FALSE NEIGHBOUR: 'it returns false'. Refute it at one input. -/
def fnComponentsWrong : ChangeSpec := { name := "fnComponents", fn := fun _ => fun
  | [d] => { results := [.lit (.bool false)], args := [d] }
  | _ => none }
def FnComponentsWrongFalsely : Prop := fnComponentsRow.holds Try.pinned (OpenSpec.ofChange fnComponentsWrong)

/-- 'laws.FnUpstream': WHATEVER THE INPUT: true; the input reads as it did. -/
def fnUpstreamSpec : ChangeSpec := { name := "fnUpstream", fn := fun _ => fun
  | [d] => { results := [.lit (.bool true)], args := [d] }
  | _ => none }
def fnUpstreamRow : OpenClaim := { program := "ytcofjjipjcekjaa", sum := "fc304348cb2c5c88efcbf569121e45a85ada0fc5d23b9cef094cfd9e6c004199", func := "loop.example/g00941/laws.FnUpstream", spec := "fnUpstream", unfollowed := true, recurses := true, apart := false }
def FnUpstreamSaid : Prop := fnUpstreamRow.holds Try.pinned (OpenSpec.ofChange fnUpstreamSpec)

/-- ITS FALSE NEIGHBOUR: 'it returns false'. Refute it at one input. -/
def fnUpstreamWrong : ChangeSpec := { name := "fnUpstream", fn := fun _ => fun
  | [d] => { results := [.lit (.bool false)], args := [d] }
  | _ => none }
def FnUpstreamWrongFalsely : Prop := fnUpstreamRow.holds Try.pinned (OpenSpec.ofChange fnUpstreamWrong)

/-- 'laws.FnExactCanReach': WHATEVER THE INPUT: true; the input reads as it did. -/
def fnExactCanReachSpec : ChangeSpec := { name := "fnExactCanReach", fn := fun _ => fun
  | [d1, d2, d3] => { results := [.lit (.bool true)], args := [d1, d2, d3] }
  | _ => none }
def fnExactCanReachRow : OpenClaim := { program := "ytcofjjipjcekjaa", sum := "fc304348cb2c5c88efcbf569121e45a85ada0fc5d23b9cef094cfd9e6c004199", func := "loop.example/g00941/laws.FnExactCanReach", spec := "fnExactCanReach", unfollowed := true, recurses := true, apart := false }
def FnExactCanReachSaid : Prop := fnExactCanReachRow.holds Try.pinned (OpenSpec.ofChange fnExactCanReachSpec)

/-- ITS FALSE NEIGHBOUR: 'it returns false'. Refute it at one input. -/
def fnExactCanReachWrong : ChangeSpec := { name := "fnExactCanReach", fn := fun _ => fun
  | [d1, d2, d3] => { results := [.lit (.bool false)], args := [d1, d2, d3] }
  | _ => none }
def FnExactCanReachWrongFalsely : Prop := fnExactCanReachRow.holds Try.pinned (OpenSpec.ofChange fnExactCanReachWrong)

/-- 'laws.FnExactComponentsOf': WHATEVER THE INPUT: true; the input reads as it did. -/
def fnExactComponentsOfSpec : ChangeSpec := { name := "fnExactComponentsOf", fn := fun _ => fun
  | [d] => { results := [.lit (.bool true)], args := [d] }
  | _ => none }
def fnExactComponentsOfRow : OpenClaim := { program := "ytcofjjipjcekjaa", sum := "fc304348cb2c5c88efcbf569121e45a85ada0fc5d23b9cef094cfd9e6c004199", func := "loop.example/g00941/laws.FnExactComponentsOf", spec := "fnExactComponentsOf", unfollowed := true, recurses := true, apart := false }
def FnExactComponentsOfSaid : Prop := fnExactComponentsOfRow.holds Try.pinned (OpenSpec.ofChange fnExactComponentsOfSpec)

/-- ITS FALSE NEIGHBOUR: 'it returns false'. Refute it at one input. -/
def fnExactComponentsOfWrong : ChangeSpec := { name := "fnExactComponentsOf", fn := fun _ => fun
  | [d] => { results := [.lit (.bool false)], args := [d] }
  | _ => none }
def FnExactComponentsOfWrongFalsely : Prop := fnExactComponentsOfRow.holds Try.pinned (OpenSpec.ofChange fnExactComponentsOfWrong)

/-- 'laws.FnExactIsIrreducible': WHATEVER THE INPUT: true; the input reads as it did. -/
def fnExactIsIrreducibleSpec : ChangeSpec := { name := "fnExactIsIrreducible", fn := fun _ => fun
  | [d] => { results := [.lit (.bool true)], args := [d] }
  | _ => none }
def fnExactIsIrreducibleRow : OpenClaim := { program := "ytcofjjipjcekjaa", sum := "fc304348cb2c5c88efcbf569121e45a85ada0fc5d23b9cef094cfd9e6c004199", func := "loop.example/g00941/laws.FnExactIsIrreducible", spec := "fnExactIsIrreducible", unfollowed := true, recurses := true, apart := false }
def FnExactIsIrreducibleSaid : Prop := fnExactIsIrreducibleRow.holds Try.pinned (OpenSpec.ofChange fnExactIsIrreducibleSpec)

/-- ITS FALSE NEIGHBOUR: 'it returns false'. Refute it at one input. -/
def fnExactIsIrreducibleWrong : ChangeSpec := { name := "fnExactIsIrreducible", fn := fun _ => fun
  | [d] => { results := [.lit (.bool false)], args := [d] }
  | _ => none }
def FnExactIsIrreducibleWrongFalsely : Prop := fnExactIsIrreducibleRow.holds Try.pinned (OpenSpec.ofChange fnExactIsIrreducibleWrong)

/-- 'laws.FnExactUpstreamMean': WHATEVER THE INPUT: true; the input reads as it did. -/
def fnExactUpstreamMeanSpec : ChangeSpec := { name := "fnExactUpstreamMean", fn := fun _ => fun
  | [d1, d2] => { results := [.lit (.bool true)], args := [d1, d2] }
  | _ => none }
def fnExactUpstreamMeanRow : OpenClaim := { program := "ytcofjjipjcekjaa", sum := "fc304348cb2c5c88efcbf569121e45a85ada0fc5d23b9cef094cfd9e6c004199", func := "loop.example/g00941/laws.FnExactUpstreamMean", spec := "fnExactUpstreamMean", unfollowed := true, recurses := true, apart := false }
def FnExactUpstreamMeanSaid : Prop := fnExactUpstreamMeanRow.holds Try.pinned (OpenSpec.ofChange fnExactUpstreamMeanSpec)

/-- ITS FALSE NEIGHBOUR: 'it returns false'. Refute it at one input. -/
def fnExactUpstreamMeanWrong : ChangeSpec := { name := "fnExactUpstreamMean", fn := fun _ => fun
  | [d1, d2] => { results := [.lit (.bool false)], args := [d1, d2] }
  | _ => none }
def FnExactUpstreamMeanWrongFalsely : Prop := fnExactUpstreamMeanRow.holds Try.pinned (OpenSpec.ofChange fnExactUpstreamMeanWrong)

/-- 'laws.FnExactIsEigenVector': WHATEVER THE INPUT: true; the input reads as it did. -/
def fnExactIsEigenVectorSpec : ChangeSpec := { name := "fnExactIsEigenVector", fn := fun _ => fun
  | [d1, d2, d3] => { results := [.lit (.bool true)], args := [d1, d2, d3] }
  | _ => none }
def fnExactIsEigenVectorRow : OpenClaim := { program := "ytcofjjipjcekjaa", sum := "fc304348cb2c5c88efcbf569121e45a85ada0fc5d23b9cef094cfd9e6c004199", func := "loop.example/g00941/laws.FnExactIsEigenVector", spec := "fnExactIsEigenVector", unfollowed := true, recurses := true, apart := false }
def FnExactIsEigenVectorSaid : Prop := fnExactIsEigenVectorRow.holds Try.pinned (OpenSpec.ofChange fnExactIsEigenVectorSpec)

/-- ITS FALSE NEIGHBOUR: 'it returns false'. Refute it at one input. -/
def fnExactIsEigenVectorWrong : ChangeSpec := { name := "fnExactIsEigenVector", fn := fun _ => fun
  | [d1, d2, d3] => { results := [.lit (.bool false)], args := [d1, d2, d3] }
  | _ => none }
def FnExactIsEigenVectorWrongFalsely : Prop := fnExactIsEigenVectorRow.holds Try.pinned (OpenSpec.ofChange fnExactIsEigenVectorWrong)

/-- 'laws.FnExactIsSubEigen': WHATEVER THE INPUT: true; the input reads as it did. -/
def fnExactIsSubEigenSpec : ChangeSpec := { name := "fnExactIsSubEigen", fn := fun _ => fun
  | [d1, d2, d3] => { results := [.lit (.bool true)], args := [d1, d2, d3] }
  | _ => none }
def fnExactIsSubEigenRow : OpenClaim := { program := "ytcofjjipjcekjaa", sum := "fc304348cb2c5c88efcbf569121e45a85ada0fc5d23b9cef094cfd9e6c004199", func := "loop.example/g00941/laws.FnExactIsSubEigen", spec := "fnExactIsSubEigen", unfollowed := true, recurses := true, apart := false }
def FnExactIsSubEigenSaid : Prop := fnExactIsSubEigenRow.holds Try.pinned (OpenSpec.ofChange fnExactIsSubEigenSpec)

/-- ITS FALSE NEIGHBOUR: 'it returns false'. Refute it at one input. -/
def fnExactIsSubEigenWrong : ChangeSpec := { name := "fnExactIsSubEigen", fn := fun _ => fun
  | [d1, d2, d3] => { results := [.lit (.bool false)], args := [d1, d2, d3] }
  | _ => none }
def FnExactIsSubEigenWrongFalsely : Prop := fnExactIsSubEigenRow.holds Try.pinned (OpenSpec.ofChange fnExactIsSubEigenWrong)

/-- 'laws.FnExactEigenVector': WHATEVER THE INPUT: true; the input reads as it did. -/
def fnExactEigenVectorSpec : ChangeSpec := { name := "fnExactEigenVector", fn := fun _ => fun
  | [d] => { results := [.lit (.bool true)], args := [d] }
  | _ => none }
def fnExactEigenVectorRow : OpenClaim := { program := "ytcofjjipjcekjaa", sum := "fc304348cb2c5c88efcbf569121e45a85ada0fc5d23b9cef094cfd9e6c004199", func := "loop.example/g00941/laws.FnExactEigenVector", spec := "fnExactEigenVector", unfollowed := true, recurses := true, apart := false }
def FnExactEigenVectorSaid : Prop := fnExactEigenVectorRow.holds Try.pinned (OpenSpec.ofChange fnExactEigenVectorSpec)

/-- ITS FALSE NEIGHBOUR: 'it returns false'. Refute it at one input. -/
def fnExactEigenVectorWrong : ChangeSpec := { name := "fnExactEigenVector", fn := fun _ => fun
  | [d] => { results := [.lit (.bool false)], args := [d] }
  | _ => none }
def FnExactEigenVectorWrongFalsely : Prop := fnExactEigenVectorRow.holds Try.pinned (OpenSpec.ofChange fnExactEigenVectorWrong)

/-- 'laws.FnExactStretchMatrix': WHATEVER THE INPUT: true; the input reads as it did. -/
def fnExactStretchMatrixSpec : ChangeSpec := { name := "fnExactStretchMatrix", fn := fun _ => fun
  | [d1, d2] => { results := [.lit (.bool true)], args := [d1, d2] }
  | _ => none }
def fnExactStretchMatrixRow : OpenClaim := { program := "ytcofjjipjcekjaa", sum := "fc304348cb2c5c88efcbf569121e45a85ada0fc5d23b9cef094cfd9e6c004199", func := "loop.example/g00941/laws.FnExactStretchMatrix", spec := "fnExactStretchMatrix", apart := false }
def FnExactStretchMatrixSaid : Prop := fnExactStretchMatrixRow.holds Try.pinned (OpenSpec.ofChange fnExactStretchMatrixSpec)

/-- ITS FALSE NEIGHBOUR: 'it returns false'. Refute it at one input. -/
def fnExactStretchMatrixWrong : ChangeSpec := { name := "fnExactStretchMatrix", fn := fun _ => fun
  | [d1, d2] => { results := [.lit (.bool false)], args := [d1, d2] }
  | _ => none }
def FnExactStretchMatrixWrongFalsely : Prop := fnExactStretchMatrixRow.holds Try.pinned (OpenSpec.ofChange fnExactStretchMatrixWrong)

/-- 'laws.FnExactIsDual': WHATEVER THE INPUT: true; the input reads as it did. -/
def fnExactIsDualSpec : ChangeSpec := { name := "fnExactIsDual", fn := fun _ => fun
  | [d1, d2, d3] => { results := [.lit (.bool true)], args := [d1, d2, d3] }
  | _ => none }
def fnExactIsDualRow : OpenClaim := { program := "ytcofjjipjcekjaa", sum := "fc304348cb2c5c88efcbf569121e45a85ada0fc5d23b9cef094cfd9e6c004199", func := "loop.example/g00941/laws.FnExactIsDual", spec := "fnExactIsDual", unfollowed := true, recurses := true, apart := false }
def FnExactIsDualSaid : Prop := fnExactIsDualRow.holds Try.pinned (OpenSpec.ofChange fnExactIsDualSpec)

/-- ITS FALSE NEIGHBOUR: 'it returns false'. Refute it at one input. -/
def fnExactIsDualWrong : ChangeSpec := { name := "fnExactIsDual", fn := fun _ => fun
  | [d1, d2, d3] => { results := [.lit (.bool false)], args := [d1, d2, d3] }
  | _ => none }
def FnExactIsDualWrongFalsely : Prop := fnExactIsDualRow.holds Try.pinned (OpenSpec.ofChange fnExactIsDualWrong)

/- THE SECOND FORM. 'bulk': how many values and letters a reading holds, each counted each time it is reached (what is shared counts as often as it is met; a slice's spare places count too). A statement '..UptoSaid' is the law's where the arguments, and the package variables that the reading takes, are together of bulk at most 1048576: NARROWER than '..Said'. Prove '..Said' where nothing that the law and all that it calls make is longer than what came in: it says more and counts as full. Else prove '..UptoSaid'. A law counts once. -/
mutual
def uptoBulk {H : Type} : DataW H → Nat
  | .lit (.string bytes) => bytes.length + 1
  | .lit _ => 1
  | .nil => 1
  | .ptr d => uptoBulk d + 1
  | .slice elems spare => uptoBulkAll elems + uptoBulkAll spare + 1
  | .agg parts => uptoBulkAll parts + 1
  | .iface _ d => uptoBulk d + 1
  | .map entries => uptoBulkEntries entries + 1
  | .held _ => 1
def uptoBulkAll {H : Type} : List (DataW H) → Nat
  | [] => 0
  | d :: r => uptoBulk d + uptoBulkAll r
def uptoBulkEntries {H : Type} : List (Lit × DataW H) → Nat
  | [] => 0
  | x :: r => uptoBulkEntry x + uptoBulkEntries r
def uptoBulkEntry {H : Type} : Lit × DataW H → Nat
  | (.string bytes, d) => bytes.length + uptoBulk d + 1
  | (_, d) => uptoBulk d + 1
 end
def uptoSmall : (H : Type) → List (DataW H) → Bool := fun _ ds => decide (uptoBulkAll ds ≤ 1048576)
def OpenSpec.upto (s : _root_.Go.ChangeSpec) : _root_.Go.OpenSpec := { _root_.Go.OpenSpec.ofChange s with cond := some uptoSmall }

/-- 'laws.FnComponents', WHERE WHAT IT READS IS OF BULK AT MOST 1048576: true; the input reads as it did. -/
def fnComponentsUptoRow : OpenClaim := { program := "ytcofjjipjcekjaa", sum := "fc304348cb2c5c88efcbf569121e45a85ada0fc5d23b9cef094cfd9e6c004199", func := "loop.example/g00941/laws.FnComponents", spec := "fnComponents", unfollowed := true, recurses := true, apart := false, narrowed := true }
def FnComponentsUptoSaid : Prop := fnComponentsUptoRow.holds Try.pinned (OpenSpec.upto fnComponentsSpec)

/-- 'laws.FnUpstream', WHERE WHAT IT READS IS OF BULK AT MOST 1048576: true; the input reads as it did. -/
def fnUpstreamUptoRow : OpenClaim := { program := "ytcofjjipjcekjaa", sum := "fc304348cb2c5c88efcbf569121e45a85ada0fc5d23b9cef094cfd9e6c004199", func := "loop.example/g00941/laws.FnUpstream", spec := "fnUpstream", unfollowed := true, recurses := true, apart := false, narrowed := true }
def FnUpstreamUptoSaid : Prop := fnUpstreamUptoRow.holds Try.pinned (OpenSpec.upto fnUpstreamSpec)

/-- 'laws.FnExactCanReach', WHERE WHAT IT READS IS OF BULK AT MOST 1048576: true; the input reads as it did. -/
def fnExactCanReachUptoRow : OpenClaim := { program := "ytcofjjipjcekjaa", sum := "fc304348cb2c5c88efcbf569121e45a85ada0fc5d23b9cef094cfd9e6c004199", func := "loop.example/g00941/laws.FnExactCanReach", spec := "fnExactCanReach", unfollowed := true, recurses := true, apart := false, narrowed := true }
def FnExactCanReachUptoSaid : Prop := fnExactCanReachUptoRow.holds Try.pinned (OpenSpec.upto fnExactCanReachSpec)

/-- 'laws.FnExactComponentsOf', WHERE WHAT IT READS IS OF BULK AT MOST 1048576: true; the input reads as it did. -/
def fnExactComponentsOfUptoRow : OpenClaim := { program := "ytcofjjipjcekjaa", sum := "fc304348cb2c5c88efcbf569121e45a85ada0fc5d23b9cef094cfd9e6c004199", func := "loop.example/g00941/laws.FnExactComponentsOf", spec := "fnExactComponentsOf", unfollowed := true, recurses := true, apart := false, narrowed := true }
def FnExactComponentsOfUptoSaid : Prop := fnExactComponentsOfUptoRow.holds Try.pinned (OpenSpec.upto fnExactComponentsOfSpec)

/-- 'laws.FnExactIsIrreducible', WHERE WHAT IT READS IS OF BULK AT MOST 1048576: true; the input reads as it did. -/
def fnExactIsIrreducibleUptoRow : OpenClaim := { program := "ytcofjjipjcekjaa", sum := "fc304348cb2c5c88efcbf569121e45a85ada0fc5d23b9cef094cfd9e6c004199", func := "loop.example/g00941/laws.FnExactIsIrreducible", spec := "fnExactIsIrreducible", unfollowed := true, recurses := true, apart := false, narrowed := true }
def FnExactIsIrreducibleUptoSaid : Prop := fnExactIsIrreducibleUptoRow.holds Try.pinned (OpenSpec.upto fnExactIsIrreducibleSpec)

/-- 'laws.FnExactUpstreamMean', WHERE WHAT IT READS IS OF BULK AT MOST 1048576: true; the input reads as it did. -/
def fnExactUpstreamMeanUptoRow : OpenClaim := { program := "ytcofjjipjcekjaa", sum := "fc304348cb2c5c88efcbf569121e45a85ada0fc5d23b9cef094cfd9e6c004199", func := "loop.example/g00941/laws.FnExactUpstreamMean", spec := "fnExactUpstreamMean", unfollowed := true, recurses := true, apart := false, narrowed := true }
def FnExactUpstreamMeanUptoSaid : Prop := fnExactUpstreamMeanUptoRow.holds Try.pinned (OpenSpec.upto fnExactUpstreamMeanSpec)

/-- 'laws.FnExactIsEigenVector', WHERE WHAT IT READS IS OF BULK AT MOST 1048576: true; the input reads as it did. -/
def fnExactIsEigenVectorUptoRow : OpenClaim := { program := "ytcofjjipjcekjaa", sum := "fc304348cb2c5c88efcbf569121e45a85ada0fc5d23b9cef094cfd9e6c004199", func := "loop.example/g00941/laws.FnExactIsEigenVector", spec := "fnExactIsEigenVector", unfollowed := true, recurses := true, apart := false, narrowed := true }
def FnExactIsEigenVectorUptoSaid : Prop := fnExactIsEigenVectorUptoRow.holds Try.pinned (OpenSpec.upto fnExactIsEigenVectorSpec)

/-- 'laws.FnExactIsSubEigen', WHERE WHAT IT READS IS OF BULK AT MOST 1048576: true; the input reads as it did. -/
def fnExactIsSubEigenUptoRow : OpenClaim := { program := "ytcofjjipjcekjaa", sum := "fc304348cb2c5c88efcbf569121e45a85ada0fc5d23b9cef094cfd9e6c004199", func := "loop.example/g00941/laws.FnExactIsSubEigen", spec := "fnExactIsSubEigen", unfollowed := true, recurses := true, apart := false, narrowed := true }
def FnExactIsSubEigenUptoSaid : Prop := fnExactIsSubEigenUptoRow.holds Try.pinned (OpenSpec.upto fnExactIsSubEigenSpec)

/-- 'laws.FnExactEigenVector', WHERE WHAT IT READS IS OF BULK AT MOST 1048576: true; the input reads as it did. -/
def fnExactEigenVectorUptoRow : OpenClaim := { program := "ytcofjjipjcekjaa", sum := "fc304348cb2c5c88efcbf569121e45a85ada0fc5d23b9cef094cfd9e6c004199", func := "loop.example/g00941/laws.FnExactEigenVector", spec := "fnExactEigenVector", unfollowed := true, recurses := true, apart := false, narrowed := true }
def FnExactEigenVectorUptoSaid : Prop := fnExactEigenVectorUptoRow.holds Try.pinned (OpenSpec.upto fnExactEigenVectorSpec)

/-- 'laws.FnExactStretchMatrix', WHERE WHAT IT READS IS OF BULK AT MOST 1048576: true; the input reads as it did. -/
def fnExactStretchMatrixUptoRow : OpenClaim := { program := "ytcofjjipjcekjaa", sum := "fc304348cb2c5c88efcbf569121e45a85ada0fc5d23b9cef094cfd9e6c004199", func := "loop.example/g00941/laws.FnExactStretchMatrix", spec := "fnExactStretchMatrix", apart := false, narrowed := true }
def FnExactStretchMatrixUptoSaid : Prop := fnExactStretchMatrixUptoRow.holds Try.pinned (OpenSpec.upto fnExactStretchMatrixSpec)

/-- 'laws.FnExactIsDual', WHERE WHAT IT READS IS OF BULK AT MOST 1048576: true; the input reads as it did. -/
def fnExactIsDualUptoRow : OpenClaim := { program := "ytcofjjipjcekjaa", sum := "fc304348cb2c5c88efcbf569121e45a85ada0fc5d23b9cef094cfd9e6c004199", func := "loop.example/g00941/laws.FnExactIsDual", spec := "fnExactIsDual", unfollowed := true, recurses := true, apart := false, narrowed := true }
def FnExactIsDualUptoSaid : Prop := fnExactIsDualUptoRow.holds Try.pinned (OpenSpec.upto fnExactIsDualSpec)

end Rows
end Go.Proofs.Ytcofjjipjcekjaa
