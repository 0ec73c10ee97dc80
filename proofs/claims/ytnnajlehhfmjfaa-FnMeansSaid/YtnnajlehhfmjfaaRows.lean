/-
  No cell of these rows narrows 'for every input' (looked for: loops, veiled, ifaces, maps, wideKeys, modest, calm, conditions, laid).
  DERIVED. THE GIVEN ROWS OF THIS SEAT. 10 by the template 'for every input the law returns true; each argument reads behind the call as it read before'; 0 by the template 'total and deterministic' (their statements: YtnnajlehhfmjfaaTotals.lean).
  GIVEN WITH THE SEED: the statements are not yours to turn. If you find one false, say at which input.
  Laid BY PROGRAM, IN A SANDBOX (cutbox-rows.mjs): the forced cells as the released guide's own fill.sh prints them over the translation ca04dabbf99bdae3… (all of the seat's roots in one cut). By AI agents, Wed Nov 11 2026. No macro, syntax, notation, axiom, sorry.
-/
import Derived.Test.YtnnajlehhfmjfaaChecked
import GoSem.Claim
import GoSem.ClaimJoined
import GoSem.ClaimMapViews
import Derived.JoinedTies
import Derived.KernelRfl
namespace Go.Proofs.Ytnnajlehhfmjfaa
/- THE CELL 'sum', in the pinned program and in every row, IS THE sha256 OF THE DUMP (.gsa) THAT YtnnajlehhfmjfaaProg.lean LOADS. Nothing in Lean hashes anything: it is a label: what it is worth is what the hold of that sum in a sandbox is worth. -/
noncomputable def Try.pinned : Pinned := { name := "ytnnajlehhfmjfaa", sum := "ca04dabbf99bdae3cd4281051b8eaffa92b8a79cb5d6b0d81ea51c6319f753ea", checked := Try.checked }
namespace Rows
def none {H : Type} : Left H := { results := [], args := [] }

/-- 'laws.FnMeans': WHATEVER THE INPUT: true; the input reads as it did. -/
def fnMeansSpec : ChangeSpec := { name := "fnMeans", fn := fun _ => fun
  | [d] => { results := [.lit (.bool true)], args := [d] }
  | _ => none }
def fnMeansRow : OpenClaim := { program := "ytnnajlehhfmjfaa", sum := "ca04dabbf99bdae3cd4281051b8eaffa92b8a79cb5d6b0d81ea51c6319f753ea", func := "loop.example/g00941/laws.FnMeans", spec := "fnMeans", unfollowed := true, recurses := true, apart := false }
def FnMeansSaid : Prop := fnMeansRow.holds Try.pinned (OpenSpec.ofChange fnMeansSpec)

/-- ITS FALSE NEIGHBOUR: 'it returns false'. Refute it at one input. -/
def fnMeansWrong : ChangeSpec := { name := "fnMeans", fn := fun _ => fun
  | [d] => { results := [.lit (.bool false)], args := [d] }
  | _ => none }
def FnMeansWrongFalsely : Prop := fnMeansRow.holds Try.pinned (OpenSpec.ofChange fnMeansWrong)

/-- 'laws.FnExactMeanOf': WHATEVER THE INPUT: true; the input reads as it did. -/
def fnExactMeanOfSpec : ChangeSpec := { name := "fnExactMeanOf", fn := fun _ => fun
  | [d1, d2] => { results := [.lit (.bool true)], args := [d1, d2] }
  | _ => none }
def fnExactMeanOfRow : OpenClaim := { program := "ytnnajlehhfmjfaa", sum := "ca04dabbf99bdae3cd4281051b8eaffa92b8a79cb5d6b0d81ea51c6319f753ea", func := "loop.example/g00941/laws.FnExactMeanOf", spec := "fnExactMeanOf", unfollowed := true, recurses := true, apart := false }
def FnExactMeanOfSaid : Prop := fnExactMeanOfRow.holds Try.pinned (OpenSpec.ofChange fnExactMeanOfSpec)

/-- ITS FALSE NEIGHBOUR: 'it returns false'. Refute it at one input. -/
def fnExactMeanOfWrong : ChangeSpec := { name := "fnExactMeanOf", fn := fun _ => fun
  | [d1, d2] => { results := [.lit (.bool false)], args := [d1, d2] }
  | _ => none }
def FnExactMeanOfWrongFalsely : Prop := fnExactMeanOfRow.holds Try.pinned (OpenSpec.ofChange fnExactMeanOfWrong)

/-- 'laws.FnExactCycleMean': WHATEVER THE INPUT: true; the input reads as it did. -/
def fnExactCycleMeanSpec : ChangeSpec := { name := "fnExactCycleMean", fn := fun _ => fun
  | [d] => { results := [.lit (.bool true)], args := [d] }
  | _ => none }
def fnExactCycleMeanRow : OpenClaim := { program := "ytnnajlehhfmjfaa", sum := "ca04dabbf99bdae3cd4281051b8eaffa92b8a79cb5d6b0d81ea51c6319f753ea", func := "loop.example/g00941/laws.FnExactCycleMean", spec := "fnExactCycleMean", unfollowed := true, recurses := true, apart := false }
def FnExactCycleMeanSaid : Prop := fnExactCycleMeanRow.holds Try.pinned (OpenSpec.ofChange fnExactCycleMeanSpec)

/-- ITS FALSE NEIGHBOUR: 'it returns false'. Refute it at one input. -/
def fnExactCycleMeanWrong : ChangeSpec := { name := "fnExactCycleMean", fn := fun _ => fun
  | [d] => { results := [.lit (.bool false)], args := [d] }
  | _ => none }
def FnExactCycleMeanWrongFalsely : Prop := fnExactCycleMeanRow.holds Try.pinned (OpenSpec.ofChange fnExactCycleMeanWrong)

/-- 'laws.FnExactTableMean': WHATEVER THE INPUT: true; the input reads as it did. -/
def fnExactTableMeanSpec : ChangeSpec := { name := "fnExactTableMean", fn := fun _ => fun
  | [d] => { results := [.lit (.bool true)], args := [d] }
  | _ => none }
def fnExactTableMeanRow : OpenClaim := { program := "ytnnajlehhfmjfaa", sum := "ca04dabbf99bdae3cd4281051b8eaffa92b8a79cb5d6b0d81ea51c6319f753ea", func := "loop.example/g00941/laws.FnExactTableMean", spec := "fnExactTableMean", unfollowed := true, recurses := true, apart := false }
def FnExactTableMeanSaid : Prop := fnExactTableMeanRow.holds Try.pinned (OpenSpec.ofChange fnExactTableMeanSpec)

/-- ITS FALSE NEIGHBOUR: 'it returns false'. Refute it at one input. -/
def fnExactTableMeanWrong : ChangeSpec := { name := "fnExactTableMean", fn := fun _ => fun
  | [d] => { results := [.lit (.bool false)], args := [d] }
  | _ => none }
def FnExactTableMeanWrongFalsely : Prop := fnExactTableMeanRow.holds Try.pinned (OpenSpec.ofChange fnExactTableMeanWrong)

/-- 'laws.FnExactBestCycle': WHATEVER THE INPUT: true; the input reads as it did. -/
def fnExactBestCycleSpec : ChangeSpec := { name := "fnExactBestCycle", fn := fun _ => fun
  | [d] => { results := [.lit (.bool true)], args := [d] }
  | _ => none }
def fnExactBestCycleRow : OpenClaim := { program := "ytnnajlehhfmjfaa", sum := "ca04dabbf99bdae3cd4281051b8eaffa92b8a79cb5d6b0d81ea51c6319f753ea", func := "loop.example/g00941/laws.FnExactBestCycle", spec := "fnExactBestCycle", unfollowed := true, recurses := true, apart := false }
def FnExactBestCycleSaid : Prop := fnExactBestCycleRow.holds Try.pinned (OpenSpec.ofChange fnExactBestCycleSpec)

/-- ITS FALSE NEIGHBOUR: 'it returns false'. Refute it at one input. -/
def fnExactBestCycleWrong : ChangeSpec := { name := "fnExactBestCycle", fn := fun _ => fun
  | [d] => { results := [.lit (.bool false)], args := [d] }
  | _ => none }
def FnExactBestCycleWrongFalsely : Prop := fnExactBestCycleRow.holds Try.pinned (OpenSpec.ofChange fnExactBestCycleWrong)

/-- 'laws.FnExactShiftMatrix': WHATEVER THE INPUT: true; the input reads as it did. -/
def fnExactShiftMatrixSpec : ChangeSpec := { name := "fnExactShiftMatrix", fn := fun _ => fun
  | [d1, d2] => { results := [.lit (.bool true)], args := [d1, d2] }
  | _ => none }
def fnExactShiftMatrixRow : OpenClaim := { program := "ytnnajlehhfmjfaa", sum := "ca04dabbf99bdae3cd4281051b8eaffa92b8a79cb5d6b0d81ea51c6319f753ea", func := "loop.example/g00941/laws.FnExactShiftMatrix", spec := "fnExactShiftMatrix", apart := false }
def FnExactShiftMatrixSaid : Prop := fnExactShiftMatrixRow.holds Try.pinned (OpenSpec.ofChange fnExactShiftMatrixSpec)

/-- ITS FALSE NEIGHBOUR: 'it returns false'. Refute it at one input. -/
def fnExactShiftMatrixWrong : ChangeSpec := { name := "fnExactShiftMatrix", fn := fun _ => fun
  | [d1, d2] => { results := [.lit (.bool false)], args := [d1, d2] }
  | _ => none }
def FnExactShiftMatrixWrongFalsely : Prop := fnExactShiftMatrixRow.holds Try.pinned (OpenSpec.ofChange fnExactShiftMatrixWrong)

/-- 'laws.FnExactIsPotential': WHATEVER THE INPUT: true; the input reads as it did. -/
def fnExactIsPotentialSpec : ChangeSpec := { name := "fnExactIsPotential", fn := fun _ => fun
  | [d1, d2, d3] => { results := [.lit (.bool true)], args := [d1, d2, d3] }
  | _ => none }
def fnExactIsPotentialRow : OpenClaim := { program := "ytnnajlehhfmjfaa", sum := "ca04dabbf99bdae3cd4281051b8eaffa92b8a79cb5d6b0d81ea51c6319f753ea", func := "loop.example/g00941/laws.FnExactIsPotential", spec := "fnExactIsPotential", unfollowed := true, recurses := true, apart := false }
def FnExactIsPotentialSaid : Prop := fnExactIsPotentialRow.holds Try.pinned (OpenSpec.ofChange fnExactIsPotentialSpec)

/-- ITS FALSE NEIGHBOUR: 'it returns false'. Refute it at one input. -/
def fnExactIsPotentialWrong : ChangeSpec := { name := "fnExactIsPotential", fn := fun _ => fun
  | [d1, d2, d3] => { results := [.lit (.bool false)], args := [d1, d2, d3] }
  | _ => none }
def FnExactIsPotentialWrongFalsely : Prop := fnExactIsPotentialRow.holds Try.pinned (OpenSpec.ofChange fnExactIsPotentialWrong)

/-- 'laws.FnExactPotentialOf': WHATEVER THE INPUT: true; the input reads as it did. -/
def fnExactPotentialOfSpec : ChangeSpec := { name := "fnExactPotentialOf", fn := fun _ => fun
  | [d1, d2] => { results := [.lit (.bool true)], args := [d1, d2] }
  | _ => none }
def fnExactPotentialOfRow : OpenClaim := { program := "ytnnajlehhfmjfaa", sum := "ca04dabbf99bdae3cd4281051b8eaffa92b8a79cb5d6b0d81ea51c6319f753ea", func := "loop.example/g00941/laws.FnExactPotentialOf", spec := "fnExactPotentialOf", unfollowed := true, recurses := true, apart := false }
def FnExactPotentialOfSaid : Prop := fnExactPotentialOfRow.holds Try.pinned (OpenSpec.ofChange fnExactPotentialOfSpec)

/-- ITS FALSE NEIGHBOUR: 'it returns false'. Refute it at one input. -/
def fnExactPotentialOfWrong : ChangeSpec := { name := "fnExactPotentialOf", fn := fun _ => fun
  | [d1, d2] => { results := [.lit (.bool false)], args := [d1, d2] }
  | _ => none }
def FnExactPotentialOfWrongFalsely : Prop := fnExactPotentialOfRow.holds Try.pinned (OpenSpec.ofChange fnExactPotentialOfWrong)

/-- 'laws.FnExactCertifyMean': WHATEVER THE INPUT: true; the input reads as it did. -/
def fnExactCertifyMeanSpec : ChangeSpec := { name := "fnExactCertifyMean", fn := fun _ => fun
  | [d] => { results := [.lit (.bool true)], args := [d] }
  | _ => none }
def fnExactCertifyMeanRow : OpenClaim := { program := "ytnnajlehhfmjfaa", sum := "ca04dabbf99bdae3cd4281051b8eaffa92b8a79cb5d6b0d81ea51c6319f753ea", func := "loop.example/g00941/laws.FnExactCertifyMean", spec := "fnExactCertifyMean", unfollowed := true, recurses := true, apart := false }
def FnExactCertifyMeanSaid : Prop := fnExactCertifyMeanRow.holds Try.pinned (OpenSpec.ofChange fnExactCertifyMeanSpec)

/-- ITS FALSE NEIGHBOUR: 'it returns false'. Refute it at one input. -/
def fnExactCertifyMeanWrong : ChangeSpec := { name := "fnExactCertifyMean", fn := fun _ => fun
  | [d] => { results := [.lit (.bool false)], args := [d] }
  | _ => none }
def FnExactCertifyMeanWrongFalsely : Prop := fnExactCertifyMeanRow.holds Try.pinned (OpenSpec.ofChange fnExactCertifyMeanWrong)

/-- 'laws.FnExactIsMeanCertificate': WHATEVER THE INPUT: true; the input reads as it did. -/
def fnExactIsMeanCertificateSpec : ChangeSpec := { name := "fnExactIsMeanCertificate", fn := fun _ => fun
  | [d1, d2, d3, d4] => { results := [.lit (.bool true)], args := [d1, d2, d3, d4] }
  | _ => none }
def fnExactIsMeanCertificateRow : OpenClaim := { program := "ytnnajlehhfmjfaa", sum := "ca04dabbf99bdae3cd4281051b8eaffa92b8a79cb5d6b0d81ea51c6319f753ea", func := "loop.example/g00941/laws.FnExactIsMeanCertificate", spec := "fnExactIsMeanCertificate", unfollowed := true, recurses := true, apart := false }
def FnExactIsMeanCertificateSaid : Prop := fnExactIsMeanCertificateRow.holds Try.pinned (OpenSpec.ofChange fnExactIsMeanCertificateSpec)

/-- ITS FALSE NEIGHBOUR: 'it returns false'. Refute it at one input. -/
def fnExactIsMeanCertificateWrong : ChangeSpec := { name := "fnExactIsMeanCertificate", fn := fun _ => fun
  | [d1, d2, d3, d4] => { results := [.lit (.bool false)], args := [d1, d2, d3, d4] }
  | _ => none }
def FnExactIsMeanCertificateWrongFalsely : Prop := fnExactIsMeanCertificateRow.holds Try.pinned (OpenSpec.ofChange fnExactIsMeanCertificateWrong)

/- THE SECOND FORM. 'bulk': how many values and letters a reading holds, each counted each time it is reached (what is shared counts as often as it is met; a slice's spare places count too). A statement '..UptoSaid' is the law's where the arguments, and the package variables that the reading takes, are together of bulk at most 1048576: NARROWER than '..Said'. Prove '..Said' where nothing that the law and all that it calls make is longer than what came in: it says more and counts as full. Else prove '..UptoSaid'. A law counts once. -/
mutual
def uptoBulk {H : Type} : DataW H → Nat
  | .lit (.string bytes) => bytes.length + 1
  | .lit _ => 1
  | .nil => 1
  | .ptr d => uptoBulk d + 1
  | .slice elems spare => uptoBulkAll elems + uptoBulkAll spare + 1
  | .agg parts => uptoBulkAll parts + 1
  | .iface _ d => uptoBulk d + 1
  | .map entries => uptoBulkEntries entries + 1
  | .held _ => 1
def uptoBulkAll {H : Type} : List (DataW H) → Nat
  | [] => 0
  | d :: r => uptoBulk d + uptoBulkAll r
def uptoBulkEntries {H : Type} : List (Lit × DataW H) → Nat
  | [] => 0
  | x :: r => uptoBulkEntry x + uptoBulkEntries r
def uptoBulkEntry {H : Type} : Lit × DataW H → Nat
  | (.string bytes, d) => bytes.length + uptoBulk d + 1
  | (_, d) => uptoBulk d + 1
 end
def uptoSmall : (H : Type) → List (DataW H) → Bool := fun _ ds => decide (uptoBulkAll ds ≤ 1048576)
def OpenSpec.upto (s : _root_.Go.ChangeSpec) : _root_.Go.OpenSpec := { _root_.Go.OpenSpec.ofChange s with cond := some uptoSmall }

/-- 'laws.FnMeans', WHERE WHAT IT READS IS OF BULK AT MOST 1048576: true; the input reads as it did. -/
def fnMeansUptoRow : OpenClaim := { program := "ytnnajlehhfmjfaa", sum := "ca04dabbf99bdae3cd4281051b8eaffa92b8a79cb5d6b0d81ea51c6319f753ea", func := "loop.example/g00941/laws.FnMeans", spec := "fnMeans", unfollowed := true, recurses := true, apart := false, narrowed := true }
def FnMeansUptoSaid : Prop := fnMeansUptoRow.holds Try.pinned (OpenSpec.upto fnMeansSpec)

/-- 'laws.FnExactMeanOf', WHERE WHAT IT READS IS OF BULK AT MOST 1048576: true; the input reads as it did. -/
def fnExactMeanOfUptoRow : OpenClaim := { program := "ytnnajlehhfmjfaa", sum := "ca04dabbf99bdae3cd4281051b8eaffa92b8a79cb5d6b0d81ea51c6319f753ea", func := "loop.example/g00941/laws.FnExactMeanOf", spec := "fnExactMeanOf", unfollowed := true, recurses := true, apart := false, narrowed := true }
def FnExactMeanOfUptoSaid : Prop := fnExactMeanOfUptoRow.holds Try.pinned (OpenSpec.upto fnExactMeanOfSpec)

/-- 'laws.FnExactCycleMean', WHERE WHAT IT READS IS OF BULK AT MOST 1048576: true; the input reads as it did. -/
def fnExactCycleMeanUptoRow : OpenClaim := { program := "ytnnajlehhfmjfaa", sum := "ca04dabbf99bdae3cd4281051b8eaffa92b8a79cb5d6b0d81ea51c6319f753ea", func := "loop.example/g00941/laws.FnExactCycleMean", spec := "fnExactCycleMean", unfollowed := true, recurses := true, apart := false, narrowed := true }
def FnExactCycleMeanUptoSaid : Prop := fnExactCycleMeanUptoRow.holds Try.pinned (OpenSpec.upto fnExactCycleMeanSpec)

/-- 'laws.FnExactTableMean', WHERE WHAT IT READS IS OF BULK AT MOST 1048576: true; the input reads as it did. -/
def fnExactTableMeanUptoRow : OpenClaim := { program := "ytnnajlehhfmjfaa", sum := "ca04dabbf99bdae3cd4281051b8eaffa92b8a79cb5d6b0d81ea51c6319f753ea", func := "loop.example/g00941/laws.FnExactTableMean", spec := "fnExactTableMean", unfollowed := true, recurses := true, apart := false, narrowed := true }
def FnExactTableMeanUptoSaid : Prop := fnExactTableMeanUptoRow.holds Try.pinned (OpenSpec.upto fnExactTableMeanSpec)

/-- 'laws.FnExactBestCycle', WHERE WHAT IT READS IS OF BULK AT MOST 1048576: true; the input reads as it did. -/
def fnExactBestCycleUptoRow : OpenClaim := { program := "ytnnajlehhfmjfaa", sum := "ca04dabbf99bdae3cd4281051b8eaffa92b8a79cb5d6b0d81ea51c6319f753ea", func := "loop.example/g00941/laws.FnExactBestCycle", spec := "fnExactBestCycle", unfollowed := true, recurses := true, apart := false, narrowed := true }
def FnExactBestCycleUptoSaid : Prop := fnExactBestCycleUptoRow.holds Try.pinned (OpenSpec.upto fnExactBestCycleSpec)

/-- 'laws.FnExactShiftMatrix', WHERE WHAT IT READS IS OF BULK AT MOST 1048576: true; the input reads as it did. -/
def fnExactShiftMatrixUptoRow : OpenClaim := { program := "ytnnajlehhfmjfaa", sum := "ca04dabbf99bdae3cd4281051b8eaffa92b8a79cb5d6b0d81ea51c6319f753ea", func := "loop.example/g00941/laws.FnExactShiftMatrix", spec := "fnExactShiftMatrix", apart := false, narrowed := true }
def FnExactShiftMatrixUptoSaid : Prop := fnExactShiftMatrixUptoRow.holds Try.pinned (OpenSpec.upto fnExactShiftMatrixSpec)

/-- 'laws.FnExactIsPotential', WHERE WHAT IT READS IS OF BULK AT MOST 1048576: true; the input reads as it did. -/
def fnExactIsPotentialUptoRow : OpenClaim := { program := "ytnnajlehhfmjfaa", sum := "ca04dabbf99bdae3cd4281051b8eaffa92b8a79cb5d6b0d81ea51c6319f753ea", func := "loop.example/g00941/laws.FnExactIsPotential", spec := "fnExactIsPotential", unfollowed := true, recurses := true, apart := false, narrowed := true }
def FnExactIsPotentialUptoSaid : Prop := fnExactIsPotentialUptoRow.holds Try.pinned (OpenSpec.upto fnExactIsPotentialSpec)

/-- 'laws.FnExactPotentialOf', WHERE WHAT IT READS IS OF BULK AT MOST 1048576: true; the input reads as it did. -/
def fnExactPotentialOfUptoRow : OpenClaim := { program := "ytnnajlehhfmjfaa", sum := "ca04dabbf99bdae3cd4281051b8eaffa92b8a79cb5d6b0d81ea51c6319f753ea", func := "loop.example/g00941/laws.FnExactPotentialOf", spec := "fnExactPotentialOf", unfollowed := true, recurses := true, apart := false, narrowed := true }
def FnExactPotentialOfUptoSaid : Prop := fnExactPotentialOfUptoRow.holds Try.pinned (OpenSpec.upto fnExactPotentialOfSpec)

/-- 'laws.FnExactCertifyMean', WHERE WHAT IT READS IS OF BULK AT MOST 1048576: true; the input reads as it did. -/
def fnExactCertifyMeanUptoRow : OpenClaim := { program := "ytnnajlehhfmjfaa", sum := "ca04dabbf99bdae3cd4281051b8eaffa92b8a79cb5d6b0d81ea51c6319f753ea", func := "loop.example/g00941/laws.FnExactCertifyMean", spec := "fnExactCertifyMean", unfollowed := true, recurses := true, apart := false, narrowed := true }
def FnExactCertifyMeanUptoSaid : Prop := fnExactCertifyMeanUptoRow.holds Try.pinned (OpenSpec.upto fnExactCertifyMeanSpec)

/-- 'laws.FnExactIsMeanCertificate', WHERE WHAT IT READS IS OF BULK AT MOST 1048576: true; the input reads as it did. -/
def fnExactIsMeanCertificateUptoRow : OpenClaim := { program := "ytnnajlehhfmjfaa", sum := "ca04dabbf99bdae3cd4281051b8eaffa92b8a79cb5d6b0d81ea51c6319f753ea", func := "loop.example/g00941/laws.FnExactIsMeanCertificate", spec := "fnExactIsMeanCertificate", unfollowed := true, recurses := true, apart := false, narrowed := true }
def FnExactIsMeanCertificateUptoSaid : Prop := fnExactIsMeanCertificateUptoRow.holds Try.pinned (OpenSpec.upto fnExactIsMeanCertificateSpec)

end Rows
end Go.Proofs.Ytnnajlehhfmjfaa
