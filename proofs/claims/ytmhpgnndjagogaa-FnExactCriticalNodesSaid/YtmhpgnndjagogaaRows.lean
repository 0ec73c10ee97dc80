/-
  No cell of these rows narrows 'for every input' (looked for: loops, veiled, ifaces, maps, wideKeys, modest, calm, conditions, laid).
  DERIVED. THE GIVEN ROWS OF THIS SEAT. 4 by the template 'for every input the law returns true; each argument reads behind the call as it read before'; 0 by the template 'total and deterministic' (their statements: YtmhpgnndjagogaaTotals.lean).
  GIVEN WITH THE SEED: the statements are not yours to turn. If you find one false, say at which input.
  Laid BY PROGRAM, IN A SANDBOX (cutbox-rows.mjs): the forced cells as the released guide's own fill.sh prints them over the translation 911e19fd86495541… (all of the seat's roots in one cut). By AI agents, Wed Nov 11 2026. No macro, syntax, notation, axiom, sorry.
-/
import Derived.Test.YtmhpgnndjagogaaChecked
import GoSem.Claim
import GoSem.ClaimJoined
import GoSem.ClaimMapViews
import Derived.JoinedTies
import Derived.KernelRfl
namespace Go.Proofs.Ytmhpgnndjagogaa
/- THE CELL 'sum', in the pinned program and in every row, IS THE sha256 OF THE DUMP (.gsa) THAT YtmhpgnndjagogaaProg.lean LOADS. Nothing in Lean hashes anything: it is a label: what it is worth is what the hold of that sum in a sandbox is worth. -/
noncomputable def Try.pinned : Pinned := { name := "ytmhpgnndjagogaa", sum := "911e19fd864955417c388bdcae15695e7b4af04a985f69ed8ee3de7c9bca9e17", checked := Try.checked }
namespace Rows
def none {H : Type} : Left H := { results := [], args := [] }

/-- 'laws.FnExactIsMeanCertificate': WHATEVER THE INPUT: true; the input reads as it did. -/
def fnExactIsMeanCertificateSpec : ChangeSpec := { name := "fnExactIsMeanCertificate", fn := fun _ => fun
  | [d1, d2, d3, d4] => { results := [.lit (.bool true)], args := [d1, d2, d3, d4] }
  | _ => none }
def fnExactIsMeanCertificateRow : OpenClaim := { program := "ytmhpgnndjagogaa", sum := "911e19fd864955417c388bdcae15695e7b4af04a985f69ed8ee3de7c9bca9e17", func := "loop.example/g00941/laws.FnExactIsMeanCertificate", spec := "fnExactIsMeanCertificate", unfollowed := true, recurses := true, plainKeys := false, apart := false }
def FnExactIsMeanCertificateSaid : Prop := fnExactIsMeanCertificateRow.holds Try.pinned (OpenSpec.ofChange fnExactIsMeanCertificateSpec)

/-- ITS FALSE NEIGHBOUR: 'it returns false'. Refute it at one input. -/
def fnExactIsMeanCertificateWrong : ChangeSpec := { name := "fnExactIsMeanCertificate", fn := fun _ => fun
  | [d1, d2, d3, d4] => { results := [.lit (.bool false)], args := [d1, d2, d3, d4] }
  | _ => none }
def FnExactIsMeanCertificateWrongFalsely : Prop := fnExactIsMeanCertificateRow.holds Try.pinned (OpenSpec.ofChange fnExactIsMeanCertificateWrong)

/-- 'laws.FnExactCriticalNodes': WHATEVER THE INPUT: true; the input reads as it did. -/
def fnExactCriticalNodesSpec : ChangeSpec := { name := "fnExactCriticalNodes", fn := fun _ => fun
  | [d] => { results := [.lit (.bool true)], args := [d] }
  | _ => none }
def fnExactCriticalNodesRow : OpenClaim := { program := "ytmhpgnndjagogaa", sum := "911e19fd864955417c388bdcae15695e7b4af04a985f69ed8ee3de7c9bca9e17", func := "loop.example/g00941/laws.FnExactCriticalNodes", spec := "fnExactCriticalNodes", unfollowed := true, recurses := true, plainKeys := false, apart := false }
def FnExactCriticalNodesSaid : Prop := fnExactCriticalNodesRow.holds Try.pinned (OpenSpec.ofChange fnExactCriticalNodesSpec)

/-- ITS FALSE NEIGHBOUR: 'it returns false'. Refute it at one input. -/
def fnExactCriticalNodesWrong : ChangeSpec := { name := "fnExactCriticalNodes", fn := fun _ => fun
  | [d] => { results := [.lit (.bool false)], args := [d] }
  | _ => none }
def FnExactCriticalNodesWrongFalsely : Prop := fnExactCriticalNodesRow.holds Try.pinned (OpenSpec.ofChange fnExactCriticalNodesWrong)

/-- 'laws.FnExactCriticalMatrix': WHATEVER THE INPUT: true; the input reads as it did. -/
def fnExactCriticalMatrixSpec : ChangeSpec := { name := "fnExactCriticalMatrix", fn := fun _ => fun
  | [d] => { results := [.lit (.bool true)], args := [d] }
  | _ => none }
def fnExactCriticalMatrixRow : OpenClaim := { program := "ytmhpgnndjagogaa", sum := "911e19fd864955417c388bdcae15695e7b4af04a985f69ed8ee3de7c9bca9e17", func := "loop.example/g00941/laws.FnExactCriticalMatrix", spec := "fnExactCriticalMatrix", unfollowed := true, recurses := true, plainKeys := false, apart := false }
def FnExactCriticalMatrixSaid : Prop := fnExactCriticalMatrixRow.holds Try.pinned (OpenSpec.ofChange fnExactCriticalMatrixSpec)

/-- ITS FALSE NEIGHBOUR: 'it returns false'. Refute it at one input. -/
def fnExactCriticalMatrixWrong : ChangeSpec := { name := "fnExactCriticalMatrix", fn := fun _ => fun
  | [d] => { results := [.lit (.bool false)], args := [d] }
  | _ => none }
def FnExactCriticalMatrixWrongFalsely : Prop := fnExactCriticalMatrixRow.holds Try.pinned (OpenSpec.ofChange fnExactCriticalMatrixWrong)

/-- 'laws.FnExactIsCriticalCycle': WHATEVER THE INPUT: true; the input reads as it did. -/
def fnExactIsCriticalCycleSpec : ChangeSpec := { name := "fnExactIsCriticalCycle", fn := fun _ => fun
  | [d1, d2] => { results := [.lit (.bool true)], args := [d1, d2] }
  | _ => none }
def fnExactIsCriticalCycleRow : OpenClaim := { program := "ytmhpgnndjagogaa", sum := "911e19fd864955417c388bdcae15695e7b4af04a985f69ed8ee3de7c9bca9e17", func := "loop.example/g00941/laws.FnExactIsCriticalCycle", spec := "fnExactIsCriticalCycle", unfollowed := true, recurses := true, plainKeys := false, apart := false }
def FnExactIsCriticalCycleSaid : Prop := fnExactIsCriticalCycleRow.holds Try.pinned (OpenSpec.ofChange fnExactIsCriticalCycleSpec)

/-- ITS FALSE NEIGHBOUR: 'it returns false'. Refute it at one input. -/
def fnExactIsCriticalCycleWrong : ChangeSpec := { name := "fnExactIsCriticalCycle", fn := fun _ => fun
  | [d1, d2] => { results := [.lit (.bool false)], args := [d1, d2] }
  | _ => none }
def FnExactIsCriticalCycleWrongFalsely : Prop := fnExactIsCriticalCycleRow.holds Try.pinned (OpenSpec.ofChange fnExactIsCriticalCycleWrong)

/- THE SECOND FORM. 'bulk': how many values and letters a reading holds, each counted each time it is reached (what is shared counts as often as it is met; a slice's spare places count too). A statement '..UptoSaid' is the law's where the arguments, and the package variables that the reading takes, are together of bulk at most 1048576: NARROWER than '..Said'. Prove '..Said' where nothing that the law and all that it calls make is longer than what came in: it says more and counts as full. Else prove '..UptoSaid'. A law counts once. -/
mutual
def uptoBulk {H : Type} : DataW H → Nat
  | .lit (.string bytes) => bytes.length + 1
  | .lit _ => 1
  | .nil => 1
  | .ptr d => uptoBulk d + 1
  | .slice elems spare => uptoBulkAll elems + uptoBulkAll spare + 1
  | .agg parts => uptoBulkAll parts + 1
  | .iface _ d => uptoBulk d + 1
  | .map entries => uptoBulkEntries entries + 1
  | .held _ => 1
def uptoBulkAll {H : Type} : List (DataW H) → Nat
  | [] => 0
  | d :: r => uptoBulk d + uptoBulkAll r
def uptoBulkEntries {H : Type} : List (Lit × DataW H) → Nat
  | [] => 0
  | x :: r => uptoBulkEntry x + uptoBulkEntries r
def uptoBulkEntry {H : Type} : Lit × DataW H → Nat
  | (.string bytes, d) => bytes.length + uptoBulk d + 1
  | (_, d) => uptoBulk d + 1
 end
def uptoSmall : (H : Type) → List (DataW H) → Bool := fun _ ds => decide (uptoBulkAll ds ≤ 1048576)
def OpenSpec.upto (s : _root_.Go.ChangeSpec) : _root_.Go.OpenSpec := { _root_.Go.OpenSpec.ofChange s with cond := some uptoSmall }

/-- 'laws.FnExactIsMeanCertificate', WHERE WHAT IT READS IS OF BULK AT MOST 1048576: true; the input reads as it did. -/
def fnExactIsMeanCertificateUptoRow : OpenClaim := { program := "ytmhpgnndjagogaa", sum := "911e19fd864955417c388bdcae15695e7b4af04a985f69ed8ee3de7c9bca9e17", func := "loop.example/g00941/laws.FnExactIsMeanCertificate", spec := "fnExactIsMeanCertificate", unfollowed := true, recurses := true, plainKeys := false, apart := false, narrowed := true }
def FnExactIsMeanCertificateUptoSaid : Prop := fnExactIsMeanCertificateUptoRow.holds Try.pinned (OpenSpec.upto fnExactIsMeanCertificateSpec)

/-- 'laws.FnExactCriticalNodes', WHERE WHAT IT READS IS OF BULK AT MOST 1048576: true; the input reads as it did. -/
def fnExactCriticalNodesUptoRow : OpenClaim := { program := "ytmhpgnndjagogaa", sum := "911e19fd864955417c388bdcae15695e7b4af04a985f69ed8ee3de7c9bca9e17", func := "loop.example/g00941/laws.FnExactCriticalNodes", spec := "fnExactCriticalNodes", unfollowed := true, recurses := true, plainKeys := false, apart := false, narrowed := true }
def FnExactCriticalNodesUptoSaid : Prop := fnExactCriticalNodesUptoRow.holds Try.pinned (OpenSpec.upto fnExactCriticalNodesSpec)

/-- 'laws.FnExactCriticalMatrix', WHERE WHAT IT READS IS OF BULK AT MOST 1048576: true; the input reads as it did. -/
def fnExactCriticalMatrixUptoRow : OpenClaim := { program := "ytmhpgnndjagogaa", sum := "911e19fd864955417c388bdcae15695e7b4af04a985f69ed8ee3de7c9bca9e17", func := "loop.example/g00941/laws.FnExactCriticalMatrix", spec := "fnExactCriticalMatrix", unfollowed := true, recurses := true, plainKeys := false, apart := false, narrowed := true }
def FnExactCriticalMatrixUptoSaid : Prop := fnExactCriticalMatrixUptoRow.holds Try.pinned (OpenSpec.upto fnExactCriticalMatrixSpec)

/-- 'laws.FnExactIsCriticalCycle', WHERE WHAT IT READS IS OF BULK AT MOST 1048576: true; the input reads as it did. -/
def fnExactIsCriticalCycleUptoRow : OpenClaim := { program := "ytmhpgnndjagogaa", sum := "911e19fd864955417c388bdcae15695e7b4af04a985f69ed8ee3de7c9bca9e17", func := "loop.example/g00941/laws.FnExactIsCriticalCycle", spec := "fnExactIsCriticalCycle", unfollowed := true, recurses := true, plainKeys := false, apart := false, narrowed := true }
def FnExactIsCriticalCycleUptoSaid : Prop := fnExactIsCriticalCycleUptoRow.holds Try.pinned (OpenSpec.upto fnExactIsCriticalCycleSpec)

end Rows
end Go.Proofs.Ytmhpgnndjagogaa
