/-
  No cell of these rows narrows 'for every input' (looked for: loops, veiled, ifaces, maps, wideKeys, modest, calm, conditions, laid).
  DERIVED. THE GIVEN ROWS OF THIS SEAT. 11 by the template 'for every input the law returns true; each argument reads behind the call as it read before'; 0 by the template 'total and deterministic' (their statements: YtlljnfljcdljaaaTotals.lean).
  GIVEN WITH THE SEED: the statements are not yours to turn. If you find one false, say at which input.
  Laid BY PROGRAM, IN A SANDBOX (cutbox-rows.mjs): the forced cells as the released guide's own fill.sh prints them over the translation df83447fe80c568f… (all of the seat's roots in one cut). By AI agents, Wed Nov 11 2026. No macro, syntax, notation, axiom, sorry.
-/
import Derived.Test.YtlljnfljcdljaaaChecked
import GoSem.Claim
import GoSem.ClaimJoined
import GoSem.ClaimMapViews
import Derived.JoinedTies
import Derived.KernelRfl
namespace Go.Proofs.Ytlljnfljcdljaaa
/- THE CELL 'sum', in the pinned program and in every row, IS THE sha256 OF THE DUMP (.gsa) THAT YtlljnfljcdljaaaProg.lean LOADS. Nothing in Lean hashes anything: it is a label: what it is worth is what the hold of that sum in a sandbox is worth. -/
noncomputable def Try.pinned : Pinned := { name := "ytlljnfljcdljaaa", sum := "df83447fe80c568f4de9465d65e59586a79deb00073a65e0b289b8052f8b4346", checked := Try.checked }
namespace Rows
def none {H : Type} : Left H := { results := [], args := [] }

/-- 'laws.FnPolynomialValues': WHATEVER THE INPUT: true; the input reads as it did. -/
def fnPolynomialValuesSpec : ChangeSpec := { name := "fnPolynomialValues", fn := fun _ => fun
  | [d] => { results := [.lit (.bool true)], args := [d] }
  | _ => none }
def fnPolynomialValuesRow : OpenClaim := { program := "ytlljnfljcdljaaa", sum := "df83447fe80c568f4de9465d65e59586a79deb00073a65e0b289b8052f8b4346", func := "loop.example/g00941/laws.FnPolynomialValues", spec := "fnPolynomialValues", unfollowed := true, recurses := true, apart := false }
def FnPolynomialValuesSaid : Prop := fnPolynomialValuesRow.holds Try.pinned (OpenSpec.ofChange fnPolynomialValuesSpec)

/-- ITS FALSE NEIGHBOUR: 'it returns false'. Refute it at one input. -/
def fnPolynomialValuesWrong : ChangeSpec := { name := "fnPolynomialValues", fn := fun _ => fun
  | [d] => { results := [.lit (.bool false)], args := [d] }
  | _ => none }
def FnPolynomialValuesWrongFalsely : Prop := fnPolynomialValuesRow.holds Try.pinned (OpenSpec.ofChange fnPolynomialValuesWrong)

/-- 'laws.FnCornersOfProducts': WHATEVER THE INPUT: true; the input reads as it did. -/
def fnCornersOfProductsSpec : ChangeSpec := { name := "fnCornersOfProducts", fn := fun _ => fun
  | [d] => { results := [.lit (.bool true)], args := [d] }
  | _ => none }
def fnCornersOfProductsRow : OpenClaim := { program := "ytlljnfljcdljaaa", sum := "df83447fe80c568f4de9465d65e59586a79deb00073a65e0b289b8052f8b4346", func := "loop.example/g00941/laws.FnCornersOfProducts", spec := "fnCornersOfProducts", unfollowed := true, recurses := true, apart := false }
def FnCornersOfProductsSaid : Prop := fnCornersOfProductsRow.holds Try.pinned (OpenSpec.ofChange fnCornersOfProductsSpec)

/-- ITS FALSE NEIGHBOUR: 'it returns false'. Refute it at one input. -/
def fnCornersOfProductsWrong : ChangeSpec := { name := "fnCornersOfProducts", fn := fun _ => fun
  | [d] => { results := [.lit (.bool false)], args := [d] }
  | _ => none }
def FnCornersOfProductsWrongFalsely : Prop := fnCornersOfProductsRow.holds Try.pinned (OpenSpec.ofChange fnCornersOfProductsWrong)

/-- 'laws.FnFullPolynomials': WHATEVER THE INPUT: true; the input reads as it did. -/
def fnFullPolynomialsSpec : ChangeSpec := { name := "fnFullPolynomials", fn := fun _ => fun
  | [d] => { results := [.lit (.bool true)], args := [d] }
  | _ => none }
def fnFullPolynomialsRow : OpenClaim := { program := "ytlljnfljcdljaaa", sum := "df83447fe80c568f4de9465d65e59586a79deb00073a65e0b289b8052f8b4346", func := "loop.example/g00941/laws.FnFullPolynomials", spec := "fnFullPolynomials", unfollowed := true, recurses := true, apart := false }
def FnFullPolynomialsSaid : Prop := fnFullPolynomialsRow.holds Try.pinned (OpenSpec.ofChange fnFullPolynomialsSpec)

/-- ITS FALSE NEIGHBOUR: 'it returns false'. Refute it at one input. -/
def fnFullPolynomialsWrong : ChangeSpec := { name := "fnFullPolynomials", fn := fun _ => fun
  | [d] => { results := [.lit (.bool false)], args := [d] }
  | _ => none }
def FnFullPolynomialsWrongFalsely : Prop := fnFullPolynomialsRow.holds Try.pinned (OpenSpec.ofChange fnFullPolynomialsWrong)

/-- 'laws.FnExactIsPolynomial': WHATEVER THE INPUT: true; the input reads as it did. -/
def fnExactIsPolynomialSpec : ChangeSpec := { name := "fnExactIsPolynomial", fn := fun _ => fun
  | [d] => { results := [.lit (.bool true)], args := [d] }
  | _ => none }
def fnExactIsPolynomialRow : OpenClaim := { program := "ytlljnfljcdljaaa", sum := "df83447fe80c568f4de9465d65e59586a79deb00073a65e0b289b8052f8b4346", func := "loop.example/g00941/laws.FnExactIsPolynomial", spec := "fnExactIsPolynomial", apart := false }
def FnExactIsPolynomialSaid : Prop := fnExactIsPolynomialRow.holds Try.pinned (OpenSpec.ofChange fnExactIsPolynomialSpec)

/-- ITS FALSE NEIGHBOUR: 'it returns false'. Refute it at one input. -/
def fnExactIsPolynomialWrong : ChangeSpec := { name := "fnExactIsPolynomial", fn := fun _ => fun
  | [d] => { results := [.lit (.bool false)], args := [d] }
  | _ => none }
def FnExactIsPolynomialWrongFalsely : Prop := fnExactIsPolynomialRow.holds Try.pinned (OpenSpec.ofChange fnExactIsPolynomialWrong)

/-- 'laws.FnExactEvaluatePolynomial': WHATEVER THE INPUT: true; the input reads as it did. -/
def fnExactEvaluatePolynomialSpec : ChangeSpec := { name := "fnExactEvaluatePolynomial", fn := fun _ => fun
  | [d1, d2] => { results := [.lit (.bool true)], args := [d1, d2] }
  | _ => none }
def fnExactEvaluatePolynomialRow : OpenClaim := { program := "ytlljnfljcdljaaa", sum := "df83447fe80c568f4de9465d65e59586a79deb00073a65e0b289b8052f8b4346", func := "loop.example/g00941/laws.FnExactEvaluatePolynomial", spec := "fnExactEvaluatePolynomial", unfollowed := true, recurses := true, apart := false }
def FnExactEvaluatePolynomialSaid : Prop := fnExactEvaluatePolynomialRow.holds Try.pinned (OpenSpec.ofChange fnExactEvaluatePolynomialSpec)

/-- ITS FALSE NEIGHBOUR: 'it returns false'. Refute it at one input. -/
def fnExactEvaluatePolynomialWrong : ChangeSpec := { name := "fnExactEvaluatePolynomial", fn := fun _ => fun
  | [d1, d2] => { results := [.lit (.bool false)], args := [d1, d2] }
  | _ => none }
def FnExactEvaluatePolynomialWrongFalsely : Prop := fnExactEvaluatePolynomialRow.holds Try.pinned (OpenSpec.ofChange fnExactEvaluatePolynomialWrong)

/-- 'laws.FnExactAddPolynomials': WHATEVER THE INPUT: true; the input reads as it did. -/
def fnExactAddPolynomialsSpec : ChangeSpec := { name := "fnExactAddPolynomials", fn := fun _ => fun
  | [d1, d2] => { results := [.lit (.bool true)], args := [d1, d2] }
  | _ => none }
def fnExactAddPolynomialsRow : OpenClaim := { program := "ytlljnfljcdljaaa", sum := "df83447fe80c568f4de9465d65e59586a79deb00073a65e0b289b8052f8b4346", func := "loop.example/g00941/laws.FnExactAddPolynomials", spec := "fnExactAddPolynomials", unfollowed := true, recurses := true, apart := false }
def FnExactAddPolynomialsSaid : Prop := fnExactAddPolynomialsRow.holds Try.pinned (OpenSpec.ofChange fnExactAddPolynomialsSpec)

/-- ITS FALSE NEIGHBOUR: 'it returns false'. Refute it at one input. -/
def fnExactAddPolynomialsWrong : ChangeSpec := { name := "fnExactAddPolynomials", fn := fun _ => fun
  | [d1, d2] => { results := [.lit (.bool false)], args := [d1, d2] }
  | _ => none }
def FnExactAddPolynomialsWrongFalsely : Prop := fnExactAddPolynomialsRow.holds Try.pinned (OpenSpec.ofChange fnExactAddPolynomialsWrong)

/-- 'laws.FnExactMultiplyPolynomials': WHATEVER THE INPUT: true; the input reads as it did. -/
def fnExactMultiplyPolynomialsSpec : ChangeSpec := { name := "fnExactMultiplyPolynomials", fn := fun _ => fun
  | [d1, d2] => { results := [.lit (.bool true)], args := [d1, d2] }
  | _ => none }
def fnExactMultiplyPolynomialsRow : OpenClaim := { program := "ytlljnfljcdljaaa", sum := "df83447fe80c568f4de9465d65e59586a79deb00073a65e0b289b8052f8b4346", func := "loop.example/g00941/laws.FnExactMultiplyPolynomials", spec := "fnExactMultiplyPolynomials", unfollowed := true, recurses := true, apart := false }
def FnExactMultiplyPolynomialsSaid : Prop := fnExactMultiplyPolynomialsRow.holds Try.pinned (OpenSpec.ofChange fnExactMultiplyPolynomialsSpec)

/-- ITS FALSE NEIGHBOUR: 'it returns false'. Refute it at one input. -/
def fnExactMultiplyPolynomialsWrong : ChangeSpec := { name := "fnExactMultiplyPolynomials", fn := fun _ => fun
  | [d1, d2] => { results := [.lit (.bool false)], args := [d1, d2] }
  | _ => none }
def FnExactMultiplyPolynomialsWrongFalsely : Prop := fnExactMultiplyPolynomialsRow.holds Try.pinned (OpenSpec.ofChange fnExactMultiplyPolynomialsWrong)

/-- 'laws.FnExactEssentialTerms': WHATEVER THE INPUT: true; the input reads as it did. -/
def fnExactEssentialTermsSpec : ChangeSpec := { name := "fnExactEssentialTerms", fn := fun _ => fun
  | [d] => { results := [.lit (.bool true)], args := [d] }
  | _ => none }
def fnExactEssentialTermsRow : OpenClaim := { program := "ytlljnfljcdljaaa", sum := "df83447fe80c568f4de9465d65e59586a79deb00073a65e0b289b8052f8b4346", func := "loop.example/g00941/laws.FnExactEssentialTerms", spec := "fnExactEssentialTerms", apart := false }
def FnExactEssentialTermsSaid : Prop := fnExactEssentialTermsRow.holds Try.pinned (OpenSpec.ofChange fnExactEssentialTermsSpec)

/-- ITS FALSE NEIGHBOUR: 'it returns false'. Refute it at one input. -/
def fnExactEssentialTermsWrong : ChangeSpec := { name := "fnExactEssentialTerms", fn := fun _ => fun
  | [d] => { results := [.lit (.bool false)], args := [d] }
  | _ => none }
def FnExactEssentialTermsWrongFalsely : Prop := fnExactEssentialTermsRow.holds Try.pinned (OpenSpec.ofChange fnExactEssentialTermsWrong)

/-- 'laws.FnExactCornersOf': WHATEVER THE INPUT: true; the input reads as it did. -/
def fnExactCornersOfSpec : ChangeSpec := { name := "fnExactCornersOf", fn := fun _ => fun
  | [d] => { results := [.lit (.bool true)], args := [d] }
  | _ => none }
def fnExactCornersOfRow : OpenClaim := { program := "ytlljnfljcdljaaa", sum := "df83447fe80c568f4de9465d65e59586a79deb00073a65e0b289b8052f8b4346", func := "loop.example/g00941/laws.FnExactCornersOf", spec := "fnExactCornersOf", apart := false }
def FnExactCornersOfSaid : Prop := fnExactCornersOfRow.holds Try.pinned (OpenSpec.ofChange fnExactCornersOfSpec)

/-- ITS FALSE NEIGHBOUR: 'it returns false'. Refute it at one input. -/
def fnExactCornersOfWrong : ChangeSpec := { name := "fnExactCornersOf", fn := fun _ => fun
  | [d] => { results := [.lit (.bool false)], args := [d] }
  | _ => none }
def FnExactCornersOfWrongFalsely : Prop := fnExactCornersOfRow.holds Try.pinned (OpenSpec.ofChange fnExactCornersOfWrong)

/-- 'laws.FnExactSameFunction': WHATEVER THE INPUT: true; the input reads as it did. -/
def fnExactSameFunctionSpec : ChangeSpec := { name := "fnExactSameFunction", fn := fun _ => fun
  | [d1, d2] => { results := [.lit (.bool true)], args := [d1, d2] }
  | _ => none }
def fnExactSameFunctionRow : OpenClaim := { program := "ytlljnfljcdljaaa", sum := "df83447fe80c568f4de9465d65e59586a79deb00073a65e0b289b8052f8b4346", func := "loop.example/g00941/laws.FnExactSameFunction", spec := "fnExactSameFunction", unfollowed := true, recurses := true, apart := false }
def FnExactSameFunctionSaid : Prop := fnExactSameFunctionRow.holds Try.pinned (OpenSpec.ofChange fnExactSameFunctionSpec)

/-- ITS FALSE NEIGHBOUR: 'it returns false'. Refute it at one input. -/
def fnExactSameFunctionWrong : ChangeSpec := { name := "fnExactSameFunction", fn := fun _ => fun
  | [d1, d2] => { results := [.lit (.bool false)], args := [d1, d2] }
  | _ => none }
def FnExactSameFunctionWrongFalsely : Prop := fnExactSameFunctionRow.holds Try.pinned (OpenSpec.ofChange fnExactSameFunctionWrong)

/-- 'laws.FnExactFullPolynomial': WHATEVER THE INPUT: true; the input reads as it did. -/
def fnExactFullPolynomialSpec : ChangeSpec := { name := "fnExactFullPolynomial", fn := fun _ => fun
  | [d] => { results := [.lit (.bool true)], args := [d] }
  | _ => none }
def fnExactFullPolynomialRow : OpenClaim := { program := "ytlljnfljcdljaaa", sum := "df83447fe80c568f4de9465d65e59586a79deb00073a65e0b289b8052f8b4346", func := "loop.example/g00941/laws.FnExactFullPolynomial", spec := "fnExactFullPolynomial", apart := false }
def FnExactFullPolynomialSaid : Prop := fnExactFullPolynomialRow.holds Try.pinned (OpenSpec.ofChange fnExactFullPolynomialSpec)

/-- ITS FALSE NEIGHBOUR: 'it returns false'. Refute it at one input. -/
def fnExactFullPolynomialWrong : ChangeSpec := { name := "fnExactFullPolynomial", fn := fun _ => fun
  | [d] => { results := [.lit (.bool false)], args := [d] }
  | _ => none }
def FnExactFullPolynomialWrongFalsely : Prop := fnExactFullPolynomialRow.holds Try.pinned (OpenSpec.ofChange fnExactFullPolynomialWrong)

/- THE SECOND FORM. 'bulk': how many values and letters a reading holds, each counted each time it is reached (what is shared counts as often as it is met; a slice's spare places count too). A statement '..UptoSaid' is the law's where the arguments, and the package variables that the reading takes, are together of bulk at most 1048576: NARROWER than '..Said'. Prove '..Said' where nothing that the law and all that it calls make is longer than what came in: it says more and counts as full. Else prove '..UptoSaid'. A law counts once. -/
mutual
def uptoBulk {H : Type} : DataW H → Nat
  | .lit (.string bytes) => bytes.length + 1
  | .lit _ => 1
  | .nil => 1
  | .ptr d => uptoBulk d + 1
  | .slice elems spare => uptoBulkAll elems + uptoBulkAll spare + 1
  | .agg parts => uptoBulkAll parts + 1
  | .iface _ d => uptoBulk d + 1
  | .map entries => uptoBulkEntries entries + 1
  | .held _ => 1
def uptoBulkAll {H : Type} : List (DataW H) → Nat
  | [] => 0
  | d :: r => uptoBulk d + uptoBulkAll r
def uptoBulkEntries {H : Type} : List (Lit × DataW H) → Nat
  | [] => 0
  | x :: r => uptoBulkEntry x + uptoBulkEntries r
def uptoBulkEntry {H : Type} : Lit × DataW H → Nat
  | (.string bytes, d) => bytes.length + uptoBulk d + 1
  | (_, d) => uptoBulk d + 1
 end
def uptoSmall : (H : Type) → List (DataW H) → Bool := fun _ ds => decide (uptoBulkAll ds ≤ 1048576)
def OpenSpec.upto (s : _root_.Go.ChangeSpec) : _root_.Go.OpenSpec := { _root_.Go.OpenSpec.ofChange s with cond := some uptoSmall }

/-- 'laws.FnPolynomialValues', WHERE WHAT IT READS IS OF BULK AT MOST 1048576: true; the input reads as it did. -/
def fnPolynomialValuesUptoRow : OpenClaim := { program := "ytlljnfljcdljaaa", sum := "df83447fe80c568f4de9465d65e59586a79deb00073a65e0b289b8052f8b4346", func := "loop.example/g00941/laws.FnPolynomialValues", spec := "fnPolynomialValues", unfollowed := true, recurses := true, apart := false, narrowed := true }
def FnPolynomialValuesUptoSaid : Prop := fnPolynomialValuesUptoRow.holds Try.pinned (OpenSpec.upto fnPolynomialValuesSpec)

/-- 'laws.FnCornersOfProducts', WHERE WHAT IT READS IS OF BULK AT MOST 1048576: true; the input reads as it did. -/
def fnCornersOfProductsUptoRow : OpenClaim := { program := "ytlljnfljcdljaaa", sum := "df83447fe80c568f4de9465d65e59586a79deb00073a65e0b289b8052f8b4346", func := "loop.example/g00941/laws.FnCornersOfProducts", spec := "fnCornersOfProducts", unfollowed := true, recurses := true, apart := false, narrowed := true }
def FnCornersOfProductsUptoSaid : Prop := fnCornersOfProductsUptoRow.holds Try.pinned (OpenSpec.upto fnCornersOfProductsSpec)

/-- 'laws.FnFullPolynomials', WHERE WHAT IT READS IS OF BULK AT MOST 1048576: true; the input reads as it did. -/
def fnFullPolynomialsUptoRow : OpenClaim := { program := "ytlljnfljcdljaaa", sum := "df83447fe80c568f4de9465d65e59586a79deb00073a65e0b289b8052f8b4346", func := "loop.example/g00941/laws.FnFullPolynomials", spec := "fnFullPolynomials", unfollowed := true, recurses := true, apart := false, narrowed := true }
def FnFullPolynomialsUptoSaid : Prop := fnFullPolynomialsUptoRow.holds Try.pinned (OpenSpec.upto fnFullPolynomialsSpec)

/-- 'laws.FnExactIsPolynomial', WHERE WHAT IT READS IS OF BULK AT MOST 1048576: true; the input reads as it did. -/
def fnExactIsPolynomialUptoRow : OpenClaim := { program := "ytlljnfljcdljaaa", sum := "df83447fe80c568f4de9465d65e59586a79deb00073a65e0b289b8052f8b4346", func := "loop.example/g00941/laws.FnExactIsPolynomial", spec := "fnExactIsPolynomial", apart := false, narrowed := true }
def FnExactIsPolynomialUptoSaid : Prop := fnExactIsPolynomialUptoRow.holds Try.pinned (OpenSpec.upto fnExactIsPolynomialSpec)

/-- 'laws.FnExactEvaluatePolynomial', WHERE WHAT IT READS IS OF BULK AT MOST 1048576: true; the input reads as it did. -/
def fnExactEvaluatePolynomialUptoRow : OpenClaim := { program := "ytlljnfljcdljaaa", sum := "df83447fe80c568f4de9465d65e59586a79deb00073a65e0b289b8052f8b4346", func := "loop.example/g00941/laws.FnExactEvaluatePolynomial", spec := "fnExactEvaluatePolynomial", unfollowed := true, recurses := true, apart := false, narrowed := true }
def FnExactEvaluatePolynomialUptoSaid : Prop := fnExactEvaluatePolynomialUptoRow.holds Try.pinned (OpenSpec.upto fnExactEvaluatePolynomialSpec)

/-- 'laws.FnExactAddPolynomials', WHERE WHAT IT READS IS OF BULK AT MOST 1048576: true; the input reads as it did. -/
def fnExactAddPolynomialsUptoRow : OpenClaim := { program := "ytlljnfljcdljaaa", sum := "df83447fe80c568f4de9465d65e59586a79deb00073a65e0b289b8052f8b4346", func := "loop.example/g00941/laws.FnExactAddPolynomials", spec := "fnExactAddPolynomials", unfollowed := true, recurses := true, apart := false, narrowed := true }
def FnExactAddPolynomialsUptoSaid : Prop := fnExactAddPolynomialsUptoRow.holds Try.pinned (OpenSpec.upto fnExactAddPolynomialsSpec)

/-- 'laws.FnExactMultiplyPolynomials', WHERE WHAT IT READS IS OF BULK AT MOST 1048576: true; the input reads as it did. -/
def fnExactMultiplyPolynomialsUptoRow : OpenClaim := { program := "ytlljnfljcdljaaa", sum := "df83447fe80c568f4de9465d65e59586a79deb00073a65e0b289b8052f8b4346", func := "loop.example/g00941/laws.FnExactMultiplyPolynomials", spec := "fnExactMultiplyPolynomials", unfollowed := true, recurses := true, apart := false, narrowed := true }
def FnExactMultiplyPolynomialsUptoSaid : Prop := fnExactMultiplyPolynomialsUptoRow.holds Try.pinned (OpenSpec.upto fnExactMultiplyPolynomialsSpec)

/-- 'laws.FnExactEssentialTerms', WHERE WHAT IT READS IS OF BULK AT MOST 1048576: true; the input reads as it did. -/
def fnExactEssentialTermsUptoRow : OpenClaim := { program := "ytlljnfljcdljaaa", sum := "df83447fe80c568f4de9465d65e59586a79deb00073a65e0b289b8052f8b4346", func := "loop.example/g00941/laws.FnExactEssentialTerms", spec := "fnExactEssentialTerms", apart := false, narrowed := true }
def FnExactEssentialTermsUptoSaid : Prop := fnExactEssentialTermsUptoRow.holds Try.pinned (OpenSpec.upto fnExactEssentialTermsSpec)

/-- 'laws.FnExactCornersOf', WHERE WHAT IT READS IS OF BULK AT MOST 1048576: true; the input reads as it did. -/
def fnExactCornersOfUptoRow : OpenClaim := { program := "ytlljnfljcdljaaa", sum := "df83447fe80c568f4de9465d65e59586a79deb00073a65e0b289b8052f8b4346", func := "loop.example/g00941/laws.FnExactCornersOf", spec := "fnExactCornersOf", apart := false, narrowed := true }
def FnExactCornersOfUptoSaid : Prop := fnExactCornersOfUptoRow.holds Try.pinned (OpenSpec.upto fnExactCornersOfSpec)

/-- 'laws.FnExactSameFunction', WHERE WHAT IT READS IS OF BULK AT MOST 1048576: true; the input reads as it did. -/
def fnExactSameFunctionUptoRow : OpenClaim := { program := "ytlljnfljcdljaaa", sum := "df83447fe80c568f4de9465d65e59586a79deb00073a65e0b289b8052f8b4346", func := "loop.example/g00941/laws.FnExactSameFunction", spec := "fnExactSameFunction", unfollowed := true, recurses := true, apart := false, narrowed := true }
def FnExactSameFunctionUptoSaid : Prop := fnExactSameFunctionUptoRow.holds Try.pinned (OpenSpec.upto fnExactSameFunctionSpec)

/-- 'laws.FnExactFullPolynomial', WHERE WHAT IT READS IS OF BULK AT MOST 1048576: true; the input reads as it did. -/
def fnExactFullPolynomialUptoRow : OpenClaim := { program := "ytlljnfljcdljaaa", sum := "df83447fe80c568f4de9465d65e59586a79deb00073a65e0b289b8052f8b4346", func := "loop.example/g00941/laws.FnExactFullPolynomial", spec := "fnExactFullPolynomial", apart := false, narrowed := true }
def FnExactFullPolynomialUptoSaid : Prop := fnExactFullPolynomialUptoRow.holds Try.pinned (OpenSpec.upto fnExactFullPolynomialSpec)

end Rows
end Go.Proofs.Ytlljnfljcdljaaa
