/-
  No cell of these rows narrows 'for every input' (looked for: loops, veiled, ifaces, maps, wideKeys, modest, calm, conditions, laid).
  DERIVED. THE GIVEN ROWS OF THIS SEAT. 10 by the template 'for every input the law returns true; each argument reads behind the call as it read before'; 0 by the template 'total and deterministic' (their statements: YtjljplolonpldabTotals.lean).
  GIVEN WITH THE SEED: the statements are not yours to turn. If you find one false, say at which input.
  Laid BY PROGRAM, IN A SANDBOX (cutbox-rows.mjs): the forced cells as the released guide's own fill.sh prints them over the translation 2641478b992ebe42… (all of the seat's roots in one cut). By AI agents, Wed Nov 11 2026. No macro, syntax, notation, axiom, sorry.
-/
import Derived.Test.YtjljplolonpldabChecked
import GoSem.Claim
import GoSem.ClaimJoined
import GoSem.ClaimMapViews
import Derived.JoinedTies
import Derived.KernelRfl
namespace Go.Proofs.Ytjljplolonpldab
/- THE CELL 'sum', in the pinned program and in every row, IS THE sha256 OF THE DUMP (.gsa) THAT YtjljplolonpldabProg.lean LOADS. Nothing in Lean hashes anything: it is a label: what it is worth is what the hold of that sum in a sandbox is worth. -/
noncomputable def Try.pinned : Pinned := { name := "ytjljplolonpldab", sum := "2641478b992ebe42276c3a909e74812668409040bd49eccc77d181b2f13b8247", checked := Try.checked }
namespace Rows
def none {H : Type} : Left H := { results := [], args := [] }

/-- 'laws.FnExactPlusMatrix': WHATEVER THE INPUT: true; the input reads as it did. -/
def fnExactPlusMatrixSpec : ChangeSpec := { name := "fnExactPlusMatrix", fn := fun _ => fun
  | [d] => { results := [.lit (.bool true)], args := [d] }
  | _ => none }
def fnExactPlusMatrixRow : OpenClaim := { program := "ytjljplolonpldab", sum := "2641478b992ebe42276c3a909e74812668409040bd49eccc77d181b2f13b8247", func := "loop.example/g00941/laws.FnExactPlusMatrix", spec := "fnExactPlusMatrix", unfollowed := true, recurses := true, apart := false }
def FnExactPlusMatrixSaid : Prop := fnExactPlusMatrixRow.holds Try.pinned (OpenSpec.ofChange fnExactPlusMatrixSpec)

/-- ITS FALSE NEIGHBOUR: 'it returns false'. Refute it at one input. -/
def fnExactPlusMatrixWrong : ChangeSpec := { name := "fnExactPlusMatrix", fn := fun _ => fun
  | [d] => { results := [.lit (.bool false)], args := [d] }
  | _ => none }
def FnExactPlusMatrixWrongFalsely : Prop := fnExactPlusMatrixRow.holds Try.pinned (OpenSpec.ofChange fnExactPlusMatrixWrong)

/-- 'laws.FnExactStarMatrix': WHATEVER THE INPUT: true; the input reads as it did. -/
def fnExactStarMatrixSpec : ChangeSpec := { name := "fnExactStarMatrix", fn := fun _ => fun
  | [d] => { results := [.lit (.bool true)], args := [d] }
  | _ => none }
def fnExactStarMatrixRow : OpenClaim := { program := "ytjljplolonpldab", sum := "2641478b992ebe42276c3a909e74812668409040bd49eccc77d181b2f13b8247", func := "loop.example/g00941/laws.FnExactStarMatrix", spec := "fnExactStarMatrix", unfollowed := true, recurses := true, apart := false }
def FnExactStarMatrixSaid : Prop := fnExactStarMatrixRow.holds Try.pinned (OpenSpec.ofChange fnExactStarMatrixSpec)

/-- ITS FALSE NEIGHBOUR: 'it returns false'. Refute it at one input. -/
def fnExactStarMatrixWrong : ChangeSpec := { name := "fnExactStarMatrix", fn := fun _ => fun
  | [d] => { results := [.lit (.bool false)], args := [d] }
  | _ => none }
def FnExactStarMatrixWrongFalsely : Prop := fnExactStarMatrixRow.holds Try.pinned (OpenSpec.ofChange fnExactStarMatrixWrong)

/-- 'laws.FnExactFixedPoint': WHATEVER THE INPUT: true; the input reads as it did. -/
def fnExactFixedPointSpec : ChangeSpec := { name := "fnExactFixedPoint", fn := fun _ => fun
  | [d1, d2] => { results := [.lit (.bool true)], args := [d1, d2] }
  | _ => none }
def fnExactFixedPointRow : OpenClaim := { program := "ytjljplolonpldab", sum := "2641478b992ebe42276c3a909e74812668409040bd49eccc77d181b2f13b8247", func := "loop.example/g00941/laws.FnExactFixedPoint", spec := "fnExactFixedPoint", unfollowed := true, recurses := true, apart := false }
def FnExactFixedPointSaid : Prop := fnExactFixedPointRow.holds Try.pinned (OpenSpec.ofChange fnExactFixedPointSpec)

/-- ITS FALSE NEIGHBOUR: 'it returns false'. Refute it at one input. -/
def fnExactFixedPointWrong : ChangeSpec := { name := "fnExactFixedPoint", fn := fun _ => fun
  | [d1, d2] => { results := [.lit (.bool false)], args := [d1, d2] }
  | _ => none }
def FnExactFixedPointWrongFalsely : Prop := fnExactFixedPointRow.holds Try.pinned (OpenSpec.ofChange fnExactFixedPointWrong)

/-- 'laws.FnExactShiftMatrix': WHATEVER THE INPUT: true; the input reads as it did. -/
def fnExactShiftMatrixSpec : ChangeSpec := { name := "fnExactShiftMatrix", fn := fun _ => fun
  | [d1, d2] => { results := [.lit (.bool true)], args := [d1, d2] }
  | _ => none }
def fnExactShiftMatrixRow : OpenClaim := { program := "ytjljplolonpldab", sum := "2641478b992ebe42276c3a909e74812668409040bd49eccc77d181b2f13b8247", func := "loop.example/g00941/laws.FnExactShiftMatrix", spec := "fnExactShiftMatrix", apart := false }
def FnExactShiftMatrixSaid : Prop := fnExactShiftMatrixRow.holds Try.pinned (OpenSpec.ofChange fnExactShiftMatrixSpec)

/-- ITS FALSE NEIGHBOUR: 'it returns false'. Refute it at one input. -/
def fnExactShiftMatrixWrong : ChangeSpec := { name := "fnExactShiftMatrix", fn := fun _ => fun
  | [d1, d2] => { results := [.lit (.bool false)], args := [d1, d2] }
  | _ => none }
def FnExactShiftMatrixWrongFalsely : Prop := fnExactShiftMatrixRow.holds Try.pinned (OpenSpec.ofChange fnExactShiftMatrixWrong)

/-- 'laws.FnExactStretchMatrix': WHATEVER THE INPUT: true; the input reads as it did. -/
def fnExactStretchMatrixSpec : ChangeSpec := { name := "fnExactStretchMatrix", fn := fun _ => fun
  | [d1, d2] => { results := [.lit (.bool true)], args := [d1, d2] }
  | _ => none }
def fnExactStretchMatrixRow : OpenClaim := { program := "ytjljplolonpldab", sum := "2641478b992ebe42276c3a909e74812668409040bd49eccc77d181b2f13b8247", func := "loop.example/g00941/laws.FnExactStretchMatrix", spec := "fnExactStretchMatrix", apart := false }
def FnExactStretchMatrixSaid : Prop := fnExactStretchMatrixRow.holds Try.pinned (OpenSpec.ofChange fnExactStretchMatrixSpec)

/-- ITS FALSE NEIGHBOUR: 'it returns false'. Refute it at one input. -/
def fnExactStretchMatrixWrong : ChangeSpec := { name := "fnExactStretchMatrix", fn := fun _ => fun
  | [d1, d2] => { results := [.lit (.bool false)], args := [d1, d2] }
  | _ => none }
def FnExactStretchMatrixWrongFalsely : Prop := fnExactStretchMatrixRow.holds Try.pinned (OpenSpec.ofChange fnExactStretchMatrixWrong)

/-- 'laws.FnPaths': WHATEVER THE INPUT: true; the input reads as it did. -/
def fnPathsSpec : ChangeSpec := { name := "fnPaths", fn := fun _ => fun
  | [d] => { results := [.lit (.bool true)], args := [d] }
  | _ => none }
def fnPathsRow : OpenClaim := { program := "ytjljplolonpldab", sum := "2641478b992ebe42276c3a909e74812668409040bd49eccc77d181b2f13b8247", func := "loop.example/g00941/laws.FnPaths", spec := "fnPaths", unfollowed := true, recurses := true, apart := false }
def FnPathsSaid : Prop := fnPathsRow.holds Try.pinned (OpenSpec.ofChange fnPathsSpec)

/-- ITS FALSE NEIGHBOUR: 'it returns false'. Refute it at one input. -/
def fnPathsWrong : ChangeSpec := { name := "fnPaths", fn := fun _ => fun
  | [d] => { results := [.lit (.bool false)], args := [d] }
  | _ => none }
def FnPathsWrongFalsely : Prop := fnPathsRow.holds Try.pinned (OpenSpec.ofChange fnPathsWrong)

/-- 'laws.FnStars': WHATEVER THE INPUT: true; the input reads as it did. -/
def fnStarsSpec : ChangeSpec := { name := "fnStars", fn := fun _ => fun
  | [d] => { results := [.lit (.bool true)], args := [d] }
  | _ => none }
def fnStarsRow : OpenClaim := { program := "ytjljplolonpldab", sum := "2641478b992ebe42276c3a909e74812668409040bd49eccc77d181b2f13b8247", func := "loop.example/g00941/laws.FnStars", spec := "fnStars", unfollowed := true, recurses := true, apart := false }
def FnStarsSaid : Prop := fnStarsRow.holds Try.pinned (OpenSpec.ofChange fnStarsSpec)

/-- ITS FALSE NEIGHBOUR: 'it returns false'. Refute it at one input. -/
def fnStarsWrong : ChangeSpec := { name := "fnStars", fn := fun _ => fun
  | [d] => { results := [.lit (.bool false)], args := [d] }
  | _ => none }
def FnStarsWrongFalsely : Prop := fnStarsRow.holds Try.pinned (OpenSpec.ofChange fnStarsWrong)

/-- 'laws.FnFixedPoints': WHATEVER THE INPUT: true; the input reads as it did. -/
def fnFixedPointsSpec : ChangeSpec := { name := "fnFixedPoints", fn := fun _ => fun
  | [d] => { results := [.lit (.bool true)], args := [d] }
  | _ => none }
def fnFixedPointsRow : OpenClaim := { program := "ytjljplolonpldab", sum := "2641478b992ebe42276c3a909e74812668409040bd49eccc77d181b2f13b8247", func := "loop.example/g00941/laws.FnFixedPoints", spec := "fnFixedPoints", unfollowed := true, recurses := true, apart := false }
def FnFixedPointsSaid : Prop := fnFixedPointsRow.holds Try.pinned (OpenSpec.ofChange fnFixedPointsSpec)

/-- ITS FALSE NEIGHBOUR: 'it returns false'. Refute it at one input. -/
def fnFixedPointsWrong : ChangeSpec := { name := "fnFixedPoints", fn := fun _ => fun
  | [d] => { results := [.lit (.bool false)], args := [d] }
  | _ => none }
def FnFixedPointsWrongFalsely : Prop := fnFixedPointsRow.holds Try.pinned (OpenSpec.ofChange fnFixedPointsWrong)

/-- 'laws.FnExactPotentialOf': WHATEVER THE INPUT: true; the input reads as it did. -/
def fnExactPotentialOfSpec : ChangeSpec := { name := "fnExactPotentialOf", fn := fun _ => fun
  | [d1, d2] => { results := [.lit (.bool true)], args := [d1, d2] }
  | _ => none }
def fnExactPotentialOfRow : OpenClaim := { program := "ytjljplolonpldab", sum := "2641478b992ebe42276c3a909e74812668409040bd49eccc77d181b2f13b8247", func := "loop.example/g00941/laws.FnExactPotentialOf", spec := "fnExactPotentialOf", unfollowed := true, recurses := true, apart := false }
def FnExactPotentialOfSaid : Prop := fnExactPotentialOfRow.holds Try.pinned (OpenSpec.ofChange fnExactPotentialOfSpec)

/-- ITS FALSE NEIGHBOUR: 'it returns false'. Refute it at one input. -/
def fnExactPotentialOfWrong : ChangeSpec := { name := "fnExactPotentialOf", fn := fun _ => fun
  | [d1, d2] => { results := [.lit (.bool false)], args := [d1, d2] }
  | _ => none }
def FnExactPotentialOfWrongFalsely : Prop := fnExactPotentialOfRow.holds Try.pinned (OpenSpec.ofChange fnExactPotentialOfWrong)

/-- 'laws.FnExactCertifyMean': WHATEVER THE INPUT: true; the input reads as it did. -/
def fnExactCertifyMeanSpec : ChangeSpec := { name := "fnExactCertifyMean", fn := fun _ => fun
  | [d] => { results := [.lit (.bool true)], args := [d] }
  | _ => none }
def fnExactCertifyMeanRow : OpenClaim := { program := "ytjljplolonpldab", sum := "2641478b992ebe42276c3a909e74812668409040bd49eccc77d181b2f13b8247", func := "loop.example/g00941/laws.FnExactCertifyMean", spec := "fnExactCertifyMean", unfollowed := true, recurses := true, apart := false }
def FnExactCertifyMeanSaid : Prop := fnExactCertifyMeanRow.holds Try.pinned (OpenSpec.ofChange fnExactCertifyMeanSpec)

/-- ITS FALSE NEIGHBOUR: 'it returns false'. Refute it at one input. -/
def fnExactCertifyMeanWrong : ChangeSpec := { name := "fnExactCertifyMean", fn := fun _ => fun
  | [d] => { results := [.lit (.bool false)], args := [d] }
  | _ => none }
def FnExactCertifyMeanWrongFalsely : Prop := fnExactCertifyMeanRow.holds Try.pinned (OpenSpec.ofChange fnExactCertifyMeanWrong)

/- THE SECOND FORM. 'bulk': how many values and letters a reading holds, each counted each time it is reached (what is shared counts as often as it is met; a slice's spare places count too). A statement '..UptoSaid' is the law's where the arguments, and the package variables that the reading takes, are together of bulk at most 1048576: NARROWER than '..Said'. Prove '..Said' where nothing that the law and all that it calls make is longer than what came in: it says more and counts as full. Else prove '..UptoSaid'. A law counts once. -/
mutual
def uptoBulk {H : Type} : DataW H → Nat
  | .lit (.string bytes) => bytes.length + 1
  | .lit _ => 1
  | .nil => 1
  | .ptr d => uptoBulk d + 1
  | .slice elems spare => uptoBulkAll elems + uptoBulkAll spare + 1
  | .agg parts => uptoBulkAll parts + 1
  | .iface _ d => uptoBulk d + 1
  | .map entries => uptoBulkEntries entries + 1
  | .held _ => 1
def uptoBulkAll {H : Type} : List (DataW H) → Nat
  | [] => 0
  | d :: r => uptoBulk d + uptoBulkAll r
def uptoBulkEntries {H : Type} : List (Lit × DataW H) → Nat
  | [] => 0
  | x :: r => uptoBulkEntry x + uptoBulkEntries r
def uptoBulkEntry {H : Type} : Lit × DataW H → Nat
  | (.string bytes, d) => bytes.length + uptoBulk d + 1
  | (_, d) => uptoBulk d + 1
 end
def uptoSmall : (H : Type) → List (DataW H) → Bool := fun _ ds => decide (uptoBulkAll ds ≤ 1048576)
def OpenSpec.upto (s : _root_.Go.ChangeSpec) : _root_.Go.OpenSpec := { _root_.Go.OpenSpec.ofChange s with cond := some uptoSmall }

/-- 'laws.FnExactPlusMatrix', WHERE WHAT IT READS IS OF BULK AT MOST 1048576: true; the input reads as it did. -/
def fnExactPlusMatrixUptoRow : OpenClaim := { program := "ytjljplolonpldab", sum := "2641478b992ebe42276c3a909e74812668409040bd49eccc77d181b2f13b8247", func := "loop.example/g00941/laws.FnExactPlusMatrix", spec := "fnExactPlusMatrix", unfollowed := true, recurses := true, apart := false, narrowed := true }
def FnExactPlusMatrixUptoSaid : Prop := fnExactPlusMatrixUptoRow.holds Try.pinned (OpenSpec.upto fnExactPlusMatrixSpec)

/-- 'laws.FnExactStarMatrix', WHERE WHAT IT READS IS OF BULK AT MOST 1048576: true; the input reads as it did. -/
def fnExactStarMatrixUptoRow : OpenClaim := { program := "ytjljplolonpldab", sum := "2641478b992ebe42276c3a909e74812668409040bd49eccc77d181b2f13b8247", func := "loop.example/g00941/laws.FnExactStarMatrix", spec := "fnExactStarMatrix", unfollowed := true, recurses := true, apart := false, narrowed := true }
def FnExactStarMatrixUptoSaid : Prop := fnExactStarMatrixUptoRow.holds Try.pinned (OpenSpec.upto fnExactStarMatrixSpec)

/-- 'laws.FnExactFixedPoint', WHERE WHAT IT READS IS OF BULK AT MOST 1048576: true; the input reads as it did. -/
def fnExactFixedPointUptoRow : OpenClaim := { program := "ytjljplolonpldab", sum := "2641478b992ebe42276c3a909e74812668409040bd49eccc77d181b2f13b8247", func := "loop.example/g00941/laws.FnExactFixedPoint", spec := "fnExactFixedPoint", unfollowed := true, recurses := true, apart := false, narrowed := true }
def FnExactFixedPointUptoSaid : Prop := fnExactFixedPointUptoRow.holds Try.pinned (OpenSpec.upto fnExactFixedPointSpec)

/-- 'laws.FnExactShiftMatrix', WHERE WHAT IT READS IS OF BULK AT MOST 1048576: true; the input reads as it did. -/
def fnExactShiftMatrixUptoRow : OpenClaim := { program := "ytjljplolonpldab", sum := "2641478b992ebe42276c3a909e74812668409040bd49eccc77d181b2f13b8247", func := "loop.example/g00941/laws.FnExactShiftMatrix", spec := "fnExactShiftMatrix", apart := false, narrowed := true }
def FnExactShiftMatrixUptoSaid : Prop := fnExactShiftMatrixUptoRow.holds Try.pinned (OpenSpec.upto fnExactShiftMatrixSpec)

/-- 'laws.FnExactStretchMatrix', WHERE WHAT IT READS IS OF BULK AT MOST 1048576: true; the input reads as it did. -/
def fnExactStretchMatrixUptoRow : OpenClaim := { program := "ytjljplolonpldab", sum := "2641478b992ebe42276c3a909e74812668409040bd49eccc77d181b2f13b8247", func := "loop.example/g00941/laws.FnExactStretchMatrix", spec := "fnExactStretchMatrix", apart := false, narrowed := true }
def FnExactStretchMatrixUptoSaid : Prop := fnExactStretchMatrixUptoRow.holds Try.pinned (OpenSpec.upto fnExactStretchMatrixSpec)

/-- 'laws.FnPaths', WHERE WHAT IT READS IS OF BULK AT MOST 1048576: true; the input reads as it did. -/
def fnPathsUptoRow : OpenClaim := { program := "ytjljplolonpldab", sum := "2641478b992ebe42276c3a909e74812668409040bd49eccc77d181b2f13b8247", func := "loop.example/g00941/laws.FnPaths", spec := "fnPaths", unfollowed := true, recurses := true, apart := false, narrowed := true }
def FnPathsUptoSaid : Prop := fnPathsUptoRow.holds Try.pinned (OpenSpec.upto fnPathsSpec)

/-- 'laws.FnStars', WHERE WHAT IT READS IS OF BULK AT MOST 1048576: true; the input reads as it did. -/
def fnStarsUptoRow : OpenClaim := { program := "ytjljplolonpldab", sum := "2641478b992ebe42276c3a909e74812668409040bd49eccc77d181b2f13b8247", func := "loop.example/g00941/laws.FnStars", spec := "fnStars", unfollowed := true, recurses := true, apart := false, narrowed := true }
def FnStarsUptoSaid : Prop := fnStarsUptoRow.holds Try.pinned (OpenSpec.upto fnStarsSpec)

/-- 'laws.FnFixedPoints', WHERE WHAT IT READS IS OF BULK AT MOST 1048576: true; the input reads as it did. -/
def fnFixedPointsUptoRow : OpenClaim := { program := "ytjljplolonpldab", sum := "2641478b992ebe42276c3a909e74812668409040bd49eccc77d181b2f13b8247", func := "loop.example/g00941/laws.FnFixedPoints", spec := "fnFixedPoints", unfollowed := true, recurses := true, apart := false, narrowed := true }
def FnFixedPointsUptoSaid : Prop := fnFixedPointsUptoRow.holds Try.pinned (OpenSpec.upto fnFixedPointsSpec)

/-- 'laws.FnExactPotentialOf', WHERE WHAT IT READS IS OF BULK AT MOST 1048576: true; the input reads as it did. -/
def fnExactPotentialOfUptoRow : OpenClaim := { program := "ytjljplolonpldab", sum := "2641478b992ebe42276c3a909e74812668409040bd49eccc77d181b2f13b8247", func := "loop.example/g00941/laws.FnExactPotentialOf", spec := "fnExactPotentialOf", unfollowed := true, recurses := true, apart := false, narrowed := true }
def FnExactPotentialOfUptoSaid : Prop := fnExactPotentialOfUptoRow.holds Try.pinned (OpenSpec.upto fnExactPotentialOfSpec)

/-- 'laws.FnExactCertifyMean', WHERE WHAT IT READS IS OF BULK AT MOST 1048576: true; the input reads as it did. -/
def fnExactCertifyMeanUptoRow : OpenClaim := { program := "ytjljplolonpldab", sum := "2641478b992ebe42276c3a909e74812668409040bd49eccc77d181b2f13b8247", func := "loop.example/g00941/laws.FnExactCertifyMean", spec := "fnExactCertifyMean", unfollowed := true, recurses := true, apart := false, narrowed := true }
def FnExactCertifyMeanUptoSaid : Prop := fnExactCertifyMeanUptoRow.holds Try.pinned (OpenSpec.upto fnExactCertifyMeanSpec)

end Rows
end Go.Proofs.Ytjljplolonpldab
