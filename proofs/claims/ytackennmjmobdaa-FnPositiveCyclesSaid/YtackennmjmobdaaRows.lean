/-
  No cell of these rows narrows 'for every input' (looked for: loops, veiled, ifaces, maps, wideKeys, modest, calm, conditions, laid).
  DERIVED. THE GIVEN ROWS OF THIS SEAT. 3 by the template 'for every input the law returns true; each argument reads behind the call as it read before'; 0 by the template 'total and deterministic' (their statements: YtackennmjmobdaaTotals.lean).
  GIVEN WITH THE SEED: the statements are not yours to turn. If you find one false, say at which input.
  Laid BY PROGRAM, IN A SANDBOX (cutbox-rows.mjs): the forced cells as the released guide's own fill.sh prints them over the translation 35935ecbba89c1b4… (all of the seat's roots in one cut). By AI agents, Wed Nov 11 2026. No macro, syntax, notation, axiom, sorry.
-/
import Derived.Test.YtackennmjmobdaaChecked
import GoSem.Claim
import GoSem.ClaimJoined
import GoSem.ClaimMapViews
import Derived.JoinedTies
import Derived.KernelRfl
namespace Go.Proofs.Ytackennmjmobdaa
/- THE CELL 'sum', in the pinned program and in every row, IS THE sha256 OF THE DUMP (.gsa) THAT YtackennmjmobdaaProg.lean LOADS. Nothing in Lean hashes anything: it is a label: what it is worth is what the hold of that sum in a sandbox is worth. -/
noncomputable def Try.pinned : Pinned := { name := "ytackennmjmobdaa", sum := "35935ecbba89c1b4f39b26f5e8aba768d425722feb93519f6977de419f482e37", checked := Try.checked }
namespace Rows
def none {H : Type} : Left H := { results := [], args := [] }

/-- 'laws.FnStars': WHATEVER THE INPUT: true; the input reads as it did. -/
def fnStarsSpec : ChangeSpec := { name := "fnStars", fn := fun _ => fun
  | [d] => { results := [.lit (.bool true)], args := [d] }
  | _ => none }
def fnStarsRow : OpenClaim := { program := "ytackennmjmobdaa", sum := "35935ecbba89c1b4f39b26f5e8aba768d425722feb93519f6977de419f482e37", func := "loop.example/g00941/laws.FnStars", spec := "fnStars", unfollowed := true, recurses := true, apart := false }
def FnStarsSaid : Prop := fnStarsRow.holds Try.pinned (OpenSpec.ofChange fnStarsSpec)

/-- ITS FALSE NEIGHBOUR: 'it returns false'. Refute it at one input. -/
def fnStarsWrong : ChangeSpec := { name := "fnStars", fn := fun _ => fun
  | [d] => { results := [.lit (.bool false)], args := [d] }
  | _ => none }
def FnStarsWrongFalsely : Prop := fnStarsRow.holds Try.pinned (OpenSpec.ofChange fnStarsWrong)

/-- 'laws.FnPositiveCycles': WHATEVER THE INPUT: true; the input reads as it did. -/
def fnPositiveCyclesSpec : ChangeSpec := { name := "fnPositiveCycles", fn := fun _ => fun
  | [d] => { results := [.lit (.bool true)], args := [d] }
  | _ => none }
def fnPositiveCyclesRow : OpenClaim := { program := "ytackennmjmobdaa", sum := "35935ecbba89c1b4f39b26f5e8aba768d425722feb93519f6977de419f482e37", func := "loop.example/g00941/laws.FnPositiveCycles", spec := "fnPositiveCycles", unfollowed := true, recurses := true, apart := false }
def FnPositiveCyclesSaid : Prop := fnPositiveCyclesRow.holds Try.pinned (OpenSpec.ofChange fnPositiveCyclesSpec)

/-- ITS FALSE NEIGHBOUR: 'it returns false'. Refute it at one input. -/
def fnPositiveCyclesWrong : ChangeSpec := { name := "fnPositiveCycles", fn := fun _ => fun
  | [d] => { results := [.lit (.bool false)], args := [d] }
  | _ => none }
def FnPositiveCyclesWrongFalsely : Prop := fnPositiveCyclesRow.holds Try.pinned (OpenSpec.ofChange fnPositiveCyclesWrong)

/-- 'laws.FnExactPositiveCycle': WHATEVER THE INPUT: true; the input reads as it did. -/
def fnExactPositiveCycleSpec : ChangeSpec := { name := "fnExactPositiveCycle", fn := fun _ => fun
  | [d] => { results := [.lit (.bool true)], args := [d] }
  | _ => none }
def fnExactPositiveCycleRow : OpenClaim := { program := "ytackennmjmobdaa", sum := "35935ecbba89c1b4f39b26f5e8aba768d425722feb93519f6977de419f482e37", func := "loop.example/g00941/laws.FnExactPositiveCycle", spec := "fnExactPositiveCycle", unfollowed := true, recurses := true, apart := false }
def FnExactPositiveCycleSaid : Prop := fnExactPositiveCycleRow.holds Try.pinned (OpenSpec.ofChange fnExactPositiveCycleSpec)

/-- ITS FALSE NEIGHBOUR: 'it returns false'. Refute it at one input. -/
def fnExactPositiveCycleWrong : ChangeSpec := { name := "fnExactPositiveCycle", fn := fun _ => fun
  | [d] => { results := [.lit (.bool false)], args := [d] }
  | _ => none }
def FnExactPositiveCycleWrongFalsely : Prop := fnExactPositiveCycleRow.holds Try.pinned (OpenSpec.ofChange fnExactPositiveCycleWrong)

/- THE SECOND FORM. 'bulk': how many values and letters a reading holds, each counted each time it is reached (what is shared counts as often as it is met; a slice's spare places count too). A statement '..UptoSaid' is the law's where the arguments, and the package variables that the reading takes, are together of bulk at most 1048576: NARROWER than '..Said'. Prove '..Said' where nothing that the law and all that it calls make is longer than what came in: it says more and counts as full. Else prove '..UptoSaid'. A law counts once. -/
mutual
def uptoBulk {H : Type} : DataW H → Nat
  | .lit (.string bytes) => bytes.length + 1
  | .lit _ => 1
  | .nil => 1
  | .ptr d => uptoBulk d + 1
  | .slice elems spare => uptoBulkAll elems + uptoBulkAll spare + 1
  | .agg parts => uptoBulkAll parts + 1
  | .iface _ d => uptoBulk d + 1
  | .map entries => uptoBulkEntries entries + 1
  | .held _ => 1
def uptoBulkAll {H : Type} : List (DataW H) → Nat
  | [] => 0
  | d :: r => uptoBulk d + uptoBulkAll r
def uptoBulkEntries {H : Type} : List (Lit × DataW H) → Nat
  | [] => 0
  | x :: r => uptoBulkEntry x + uptoBulkEntries r
def uptoBulkEntry {H : Type} : Lit × DataW H → Nat
  | (.string bytes, d) => bytes.length + uptoBulk d + 1
  | (_, d) => uptoBulk d + 1
 end
def uptoSmall : (H : Type) → List (DataW H) → Bool := fun _ ds => decide (uptoBulkAll ds ≤ 1048576)
def OpenSpec.upto (s : _root_.Go.ChangeSpec) : _root_.Go.OpenSpec := { _root_.Go.OpenSpec.ofChange s with cond := some uptoSmall }

/-- 'laws.FnStars', WHERE WHAT IT READS IS OF BULK AT MOST 1048576: true; the input reads as it did. -/
def fnStarsUptoRow : OpenClaim := { program := "ytackennmjmobdaa", sum := "35935ecbba89c1b4f39b26f5e8aba768d425722feb93519f6977de419f482e37", func := "loop.example/g00941/laws.FnStars", spec := "fnStars", unfollowed := true, recurses := true, apart := false, narrowed := true }
def FnStarsUptoSaid : Prop := fnStarsUptoRow.holds Try.pinned (OpenSpec.upto fnStarsSpec)

/-- 'laws.FnPositiveCycles', WHERE WHAT IT READS IS OF BULK AT MOST 1048576: true; the input reads as it did. -/
def fnPositiveCyclesUptoRow : OpenClaim := { program := "ytackennmjmobdaa", sum := "35935ecbba89c1b4f39b26f5e8aba768d425722feb93519f6977de419f482e37", func := "loop.example/g00941/laws.FnPositiveCycles", spec := "fnPositiveCycles", unfollowed := true, recurses := true, apart := false, narrowed := true }
def FnPositiveCyclesUptoSaid : Prop := fnPositiveCyclesUptoRow.holds Try.pinned (OpenSpec.upto fnPositiveCyclesSpec)

/-- 'laws.FnExactPositiveCycle', WHERE WHAT IT READS IS OF BULK AT MOST 1048576: true; the input reads as it did. -/
def fnExactPositiveCycleUptoRow : OpenClaim := { program := "ytackennmjmobdaa", sum := "35935ecbba89c1b4f39b26f5e8aba768d425722feb93519f6977de419f482e37", func := "loop.example/g00941/laws.FnExactPositiveCycle", spec := "fnExactPositiveCycle", unfollowed := true, recurses := true, apart := false, narrowed := true }
def FnExactPositiveCycleUptoSaid : Prop := fnExactPositiveCycleUptoRow.holds Try.pinned (OpenSpec.upto fnExactPositiveCycleSpec)

end Rows
end Go.Proofs.Ytackennmjmobdaa
