/-
  No cell of these rows narrows 'for every input' (looked for: loops, veiled, ifaces, maps, wideKeys, modest, calm, conditions, laid).
  DERIVED. THE GIVEN ROWS OF THIS SEAT. 4 by the template 'for every input the law returns true; each argument reads behind the call as it read before'; 0 by the template 'total and deterministic' (their statements: YthonlfjjgmmnpabTotals.lean).
  GIVEN WITH THE SEED: the statements are not yours to turn. If you find one false, say at which input.
  Laid BY PROGRAM, IN A SANDBOX (cutbox-rows.mjs): the forced cells as the released guide's own fill.sh prints them over the translation a55e6f210a64b4a7… (all of the seat's roots in one cut). By AI agents, Wed Nov 11 2026. No macro, syntax, notation, axiom, sorry.
-/
import Derived.Test.YthonlfjjgmmnpabChecked
import GoSem.Claim
import GoSem.ClaimJoined
import GoSem.ClaimMapViews
import Derived.JoinedTies
import Derived.KernelRfl
namespace Go.Proofs.Ythonlfjjgmmnpab
/- THE CELL 'sum', in the pinned program and in every row, IS THE sha256 OF THE DUMP (.gsa) THAT YthonlfjjgmmnpabProg.lean LOADS. Nothing in Lean hashes anything: it is a label: what it is worth is what the hold of that sum in a sandbox is worth. -/
noncomputable def Try.pinned : Pinned := { name := "ythonlfjjgmmnpab", sum := "a55e6f210a64b4a73cce28d026ecc2956248997cf498cb2bdbaa990a6367234f", checked := Try.checked }
namespace Rows
def none {H : Type} : Left H := { results := [], args := [] }

/-- 'laws.FnMeans': WHATEVER THE INPUT: true; the input reads as it did. -/
def fnMeansSpec : ChangeSpec := { name := "fnMeans", fn := fun _ => fun
  | [d] => { results := [.lit (.bool true)], args := [d] }
  | _ => none }
def fnMeansRow : OpenClaim := { program := "ythonlfjjgmmnpab", sum := "a55e6f210a64b4a73cce28d026ecc2956248997cf498cb2bdbaa990a6367234f", func := "loop.example/g00941/laws.FnMeans", spec := "fnMeans", unfollowed := true, recurses := true, apart := false }
def FnMeansSaid : Prop := fnMeansRow.holds Try.pinned (OpenSpec.ofChange fnMeansSpec)

/-- ITS FALSE NEIGHBOUR: 'it returns false'. Refute it at one input. -/
def fnMeansWrong : ChangeSpec := { name := "fnMeans", fn := fun _ => fun
  | [d] => { results := [.lit (.bool false)], args := [d] }
  | _ => none }
def FnMeansWrongFalsely : Prop := fnMeansRow.holds Try.pinned (OpenSpec.ofChange fnMeansWrong)

/-- 'laws.FnComponents': WHATEVER THE INPUT: true; the input reads as it did. -/
def fnComponentsSpec : ChangeSpec := { name := "fnComponents", fn := fun _ => fun
  | [d] => { results := [.lit (.bool true)], args := [d] }
  | _ => none }
def fnComponentsRow : OpenClaim := { program := "ythonlfjjgmmnpab", sum := "a55e6f210a64b4a73cce28d026ecc2956248997cf498cb2bdbaa990a6367234f", func := "loop.example/g00941/laws.FnComponents", spec := "fnComponents", unfollowed := true, recurses := true, apart := false }
def FnComponentsSaid : Prop := fnComponentsRow.holds Try.pinned (OpenSpec.ofChange fnComponentsSpec)

/-- ITS FALSE NEIGHBOUR: 'it returns false'. Refute it at one input. -/
def fnComponentsWrong : ChangeSpec := { name := "fnComponents", fn := fun _ => fun
  | [d] => { results := [.lit (.bool false)], args := [d] }
  | _ => none }
def FnComponentsWrongFalsely : Prop := fnComponentsRow.holds Try.pinned (OpenSpec.ofChange fnComponentsWrong)

/-- 'laws.FnUpstream': WHATEVER THE INPUT: true; the input reads as it did. -/
def fnUpstreamSpec : ChangeSpec := { name := "fnUpstream", fn := fun _ => fun
  | [d] => { results := [.lit (.bool true)], args := [d] }
  | _ => none }
def fnUpstreamRow : OpenClaim := { program := "ythonlfjjgmmnpab", sum := "a55e6f210a64b4a73cce28d026ecc2956248997cf498cb2bdbaa990a6367234f", func := "loop.example/g00941/laws.FnUpstream", spec := "fnUpstream", unfollowed := true, recurses := true, apart := false }
def FnUpstreamSaid : Prop := fnUpstreamRow.holds Try.pinned (OpenSpec.ofChange fnUpstreamSpec)

/-- ITS FALSE NEIGHBOUR: 'it returns false'. Refute it at one input. -/
def fnUpstreamWrong : ChangeSpec := { name := "fnUpstream", fn := fun _ => fun
  | [d] => { results := [.lit (.bool false)], args := [d] }
  | _ => none }
def FnUpstreamWrongFalsely : Prop := fnUpstreamRow.holds Try.pinned (OpenSpec.ofChange fnUpstreamWrong)

/-- 'laws.FnExactTableMean': WHATEVER THE INPUT: true; the input reads as it did. -/
def fnExactTableMeanSpec : ChangeSpec := { name := "fnExactTableMean", fn := fun _ => fun
  | [d] => { results := [.lit (.bool true)], args := [d] }
  | _ => none }
def fnExactTableMeanRow : OpenClaim := { program := "ythonlfjjgmmnpab", sum := "a55e6f210a64b4a73cce28d026ecc2956248997cf498cb2bdbaa990a6367234f", func := "loop.example/g00941/laws.FnExactTableMean", spec := "fnExactTableMean", unfollowed := true, recurses := true, apart := false }
def FnExactTableMeanSaid : Prop := fnExactTableMeanRow.holds Try.pinned (OpenSpec.ofChange fnExactTableMeanSpec)

/-- ITS FALSE NEIGHBOUR: 'it returns false'. Refute it at one input. -/
def fnExactTableMeanWrong : ChangeSpec := { name := "fnExactTableMean", fn := fun _ => fun
  | [d] => { results := [.lit (.bool false)], args := [d] }
  | _ => none }
def FnExactTableMeanWrongFalsely : Prop := fnExactTableMeanRow.holds Try.pinned (OpenSpec.ofChange fnExactTableMeanWrong)

/- THE SECOND FORM. 'bulk': how many values and letters a reading holds, each counted each time it is reached (what is shared counts as often as it is met; a slice's spare places count too). A statement '..UptoSaid' is the law's where the arguments, and the package variables that the reading takes, are together of bulk at most 1048576: NARROWER than '..Said'. Prove '..Said' where nothing that the law and all that it calls make is longer than what came in: it says more and counts as full. Else prove '..UptoSaid'. A law counts once. -/
mutual
def uptoBulk {H : Type} : DataW H → Nat
  | .lit (.string bytes) => bytes.length + 1
  | .lit _ => 1
  | .nil => 1
  | .ptr d => uptoBulk d + 1
  | .slice elems spare => uptoBulkAll elems + uptoBulkAll spare + 1
  | .agg parts => uptoBulkAll parts + 1
  | .iface _ d => uptoBulk d + 1
  | .map entries => uptoBulkEntries entries + 1
  | .held _ => 1
def uptoBulkAll {H : Type} : List (DataW H) → Nat
  | [] => 0
  | d :: r => uptoBulk d + uptoBulkAll r
def uptoBulkEntries {H : Type} : List (Lit × DataW H) → Nat
  | [] => 0
  | x :: r => uptoBulkEntry x + uptoBulkEntries r
def uptoBulkEntry {H : Type} : Lit × DataW H → Nat
  | (.string bytes, d) => bytes.length + uptoBulk d + 1
  | (_, d) => uptoBulk d + 1
 end
def uptoSmall : (H : Type) → List (DataW H) → Bool := fun _ ds => decide (uptoBulkAll ds ≤ 1048576)
def OpenSpec.upto (s : _root_.Go.ChangeSpec) : _root_.Go.OpenSpec := { _root_.Go.OpenSpec.ofChange s with cond := some uptoSmall }

/-- 'laws.FnMeans', WHERE WHAT IT READS IS OF BULK AT MOST 1048576: true; the input reads as it did. -/
def fnMeansUptoRow : OpenClaim := { program := "ythonlfjjgmmnpab", sum := "a55e6f210a64b4a73cce28d026ecc2956248997cf498cb2bdbaa990a6367234f", func := "loop.example/g00941/laws.FnMeans", spec := "fnMeans", unfollowed := true, recurses := true, apart := false, narrowed := true }
def FnMeansUptoSaid : Prop := fnMeansUptoRow.holds Try.pinned (OpenSpec.upto fnMeansSpec)

/-- 'laws.FnComponents', WHERE WHAT IT READS IS OF BULK AT MOST 1048576: true; the input reads as it did. -/
def fnComponentsUptoRow : OpenClaim := { program := "ythonlfjjgmmnpab", sum := "a55e6f210a64b4a73cce28d026ecc2956248997cf498cb2bdbaa990a6367234f", func := "loop.example/g00941/laws.FnComponents", spec := "fnComponents", unfollowed := true, recurses := true, apart := false, narrowed := true }
def FnComponentsUptoSaid : Prop := fnComponentsUptoRow.holds Try.pinned (OpenSpec.upto fnComponentsSpec)

/-- 'laws.FnUpstream', WHERE WHAT IT READS IS OF BULK AT MOST 1048576: true; the input reads as it did. -/
def fnUpstreamUptoRow : OpenClaim := { program := "ythonlfjjgmmnpab", sum := "a55e6f210a64b4a73cce28d026ecc2956248997cf498cb2bdbaa990a6367234f", func := "loop.example/g00941/laws.FnUpstream", spec := "fnUpstream", unfollowed := true, recurses := true, apart := false, narrowed := true }
def FnUpstreamUptoSaid : Prop := fnUpstreamUptoRow.holds Try.pinned (OpenSpec.upto fnUpstreamSpec)

/-- 'laws.FnExactTableMean', WHERE WHAT IT READS IS OF BULK AT MOST 1048576: true; the input reads as it did. -/
def fnExactTableMeanUptoRow : OpenClaim := { program := "ythonlfjjgmmnpab", sum := "a55e6f210a64b4a73cce28d026ecc2956248997cf498cb2bdbaa990a6367234f", func := "loop.example/g00941/laws.FnExactTableMean", spec := "fnExactTableMean", unfollowed := true, recurses := true, apart := false, narrowed := true }
def FnExactTableMeanUptoSaid : Prop := fnExactTableMeanUptoRow.holds Try.pinned (OpenSpec.upto fnExactTableMeanSpec)

end Rows
end Go.Proofs.Ythonlfjjgmmnpab
