/-
  DERIVED. GIVEN WITH THE SEED: THE CARDS: each row of YtokhcpiicfmaeaaDoorRows.lean that lists a variable, with what it lists TIED to the program's text (the seventh form; the later family's looks); each row that meets fmt, with fmt's text TOLD by the authors' own Lean function (tested against real Go, not proved from fmt's source: count such statements apart). THE CARD IS WHAT COUNTS. Prove the row's statement (the work); the ties are given (YtokhcpiicfmaeaaDoorTie.lean); close each card by the builder's one call (the guide's Derived/Test/ToyasCard.lean, 'card_holds'). Laid BY PROGRAM, IN A SANDBOX (cutbox-door.mjs). By AI agents, Wed Nov 11 2026. No macro, syntax, notation, axiom, sorry.
-/
import Derived.Test.YtokhcpiicfmaeaaDoorRows
import GoSem.ClaimSeven
namespace Go.Proofs.YtokhcpiicfmaeaaDoor
namespace Rows

/-- THE TIED CARD OF 'laws.FnValueTexts'. -/
def fnValueTextsCard : Claim7 := { stood := { row := fnValueTextsRow, standIns := [], harness := (true, "f7455584d59703ebffbb27917226cbccf4c81a9d62b8f0b90f76bc1168274b6a"), looks := true }, kinds := [], alts := [], laidByText := true, laidKinds := [.data, .data, .data, .sentinel, .sentinel], laidTests := true, laidLooks := .later }
def FnValueTextsCardSaid : Prop := Claim7.holds Tryd.pinned (.plain (OpenSpec.ofChange fnValueTextsSpec)) fnValueTextsCard

/-- THE TIED CARD OF 'laws.FnMatrixTexts'. -/
def fnMatrixTextsCard : Claim7 := { stood := { row := fnMatrixTextsRow, standIns := [], harness := (true, "f7455584d59703ebffbb27917226cbccf4c81a9d62b8f0b90f76bc1168274b6a"), looks := true }, kinds := [], alts := [], laidByText := true, laidKinds := [.data, .data, .data, .data, .sentinel, .sentinel, .pinned], laidTests := true, laidLooks := .later }
def FnMatrixTextsCardSaid : Prop := Claim7.holds Tryd.pinned (.plain (OpenSpec.ofChange fnMatrixTextsSpec)) fnMatrixTextsCard

/-- THE TIED CARD OF 'laws.FnExactMatrixText'. -/
def fnExactMatrixTextCard : Claim7 := { stood := { row := fnExactMatrixTextRow, standIns := [], harness := (true, "f7455584d59703ebffbb27917226cbccf4c81a9d62b8f0b90f76bc1168274b6a"), looks := true }, kinds := [], alts := [], laidByText := true, laidKinds := [.data, .data, .data], laidTests := true, laidLooks := .later }
def FnExactMatrixTextCardSaid : Prop := Claim7.holds Tryd.pinned (.plain (OpenSpec.ofChange fnExactMatrixTextSpec)) fnExactMatrixTextCard

/-- THE TIED CARD OF 'laws.FnExactReadMatrix'. -/
def fnExactReadMatrixCard : Claim7 := { stood := { row := fnExactReadMatrixRow, standIns := [], harness := (true, "f7455584d59703ebffbb27917226cbccf4c81a9d62b8f0b90f76bc1168274b6a"), looks := true }, kinds := [], alts := [], laidByText := true, laidKinds := [.data, .data, .data, .data, .sentinel, .sentinel, .pinned], laidTests := true, laidLooks := .later }
def FnExactReadMatrixCardSaid : Prop := Claim7.holds Tryd.pinned (.plain (OpenSpec.ofChange fnExactReadMatrixSpec)) fnExactReadMatrixCard

/-- THE SECOND FORM's CARD OF 'laws.FnValueTexts'. -/
def fnValueTextsUptoCard : Claim7 := { stood := { row := fnValueTextsUptoRow, standIns := [], harness := (true, "f7455584d59703ebffbb27917226cbccf4c81a9d62b8f0b90f76bc1168274b6a"), looks := true }, kinds := [], alts := [], laidByText := true, laidKinds := [.data, .data, .data, .sentinel, .sentinel], laidTests := true, laidLooks := .later }
def FnValueTextsUptoCardSaid : Prop := Claim7.holds Tryd.pinned (.plain (OpenSpec.upto fnValueTextsSpec)) fnValueTextsUptoCard

/-- THE SECOND FORM's CARD OF 'laws.FnMatrixTexts'. -/
def fnMatrixTextsUptoCard : Claim7 := { stood := { row := fnMatrixTextsUptoRow, standIns := [], harness := (true, "f7455584d59703ebffbb27917226cbccf4c81a9d62b8f0b90f76bc1168274b6a"), looks := true }, kinds := [], alts := [], laidByText := true, laidKinds := [.data, .data, .data, .data, .sentinel, .sentinel, .pinned], laidTests := true, laidLooks := .later }
def FnMatrixTextsUptoCardSaid : Prop := Claim7.holds Tryd.pinned (.plain (OpenSpec.upto fnMatrixTextsSpec)) fnMatrixTextsUptoCard

/-- THE SECOND FORM's CARD OF 'laws.FnExactMatrixText'. -/
def fnExactMatrixTextUptoCard : Claim7 := { stood := { row := fnExactMatrixTextUptoRow, standIns := [], harness := (true, "f7455584d59703ebffbb27917226cbccf4c81a9d62b8f0b90f76bc1168274b6a"), looks := true }, kinds := [], alts := [], laidByText := true, laidKinds := [.data, .data, .data], laidTests := true, laidLooks := .later }
def FnExactMatrixTextUptoCardSaid : Prop := Claim7.holds Tryd.pinned (.plain (OpenSpec.upto fnExactMatrixTextSpec)) fnExactMatrixTextUptoCard

/-- THE SECOND FORM's CARD OF 'laws.FnExactReadMatrix'. -/
def fnExactReadMatrixUptoCard : Claim7 := { stood := { row := fnExactReadMatrixUptoRow, standIns := [], harness := (true, "f7455584d59703ebffbb27917226cbccf4c81a9d62b8f0b90f76bc1168274b6a"), looks := true }, kinds := [], alts := [], laidByText := true, laidKinds := [.data, .data, .data, .data, .sentinel, .sentinel, .pinned], laidTests := true, laidLooks := .later }
def FnExactReadMatrixUptoCardSaid : Prop := Claim7.holds Tryd.pinned (.plain (OpenSpec.upto fnExactReadMatrixSpec)) fnExactReadMatrixUptoCard
end Rows
end Go.Proofs.YtokhcpiicfmaeaaDoor
