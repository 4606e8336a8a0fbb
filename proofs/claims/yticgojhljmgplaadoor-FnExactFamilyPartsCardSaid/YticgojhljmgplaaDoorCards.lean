/-
  DERIVED. GIVEN WITH THE SEED: THE CARDS: each row of YticgojhljmgplaaDoorRows.lean that lists a variable, with what it lists TIED to the program's text (the seventh form; the later family's looks); each row that meets fmt, with fmt's text TOLD by the authors' own Lean function (tested against real Go, not proved from fmt's source: count such statements apart). THE CARD IS WHAT COUNTS. Prove the row's statement (the work); the ties are given (YticgojhljmgplaaDoorTie.lean); close each card by the builder's one call (the guide's Derived/Test/ToyasCard.lean, 'card_holds'). Laid BY PROGRAM, IN A SANDBOX (cutbox-door.mjs). By AI agents, Wed Nov 11 2026. No macro, syntax, notation, axiom, sorry.
-/
import Derived.Test.YticgojhljmgplaaDoorRows
import GoSem.ClaimSeven
namespace Go.Proofs.YticgojhljmgplaaDoor
namespace Rows

/-- THE TIED CARD OF 'laws.FnDual'. -/
def fnDualCard : Claim7 := { stood := { row := fnDualRow, standIns := [], harness := (true, "cf1d8003702e5bd9c4233bee637092a6179bd5ae9eb2be89f3af892e0dce114c"), looks := false }, kinds := [], alts := [], laidByText := true, laidKinds := [.data, .data], laidTests := true, laidLooks := .later }
def FnDualCardSaid : Prop := Claim7.holds Tryd.pinned (.plain (OpenSpec.ofChange fnDualSpec)) fnDualCard

/-- THE TIED CARD OF 'laws.FnExactFamilyDegrees'. -/
def fnExactFamilyDegreesCard : Claim7 := { stood := { row := fnExactFamilyDegreesRow, standIns := [], harness := (true, "cf1d8003702e5bd9c4233bee637092a6179bd5ae9eb2be89f3af892e0dce114c"), looks := false }, kinds := [], alts := [], laidByText := true, laidKinds := [.data, .data], laidTests := true, laidLooks := .later }
def FnExactFamilyDegreesCardSaid : Prop := Claim7.holds Tryd.pinned (.plain (OpenSpec.ofChange fnExactFamilyDegreesSpec)) fnExactFamilyDegreesCard

/-- THE TIED CARD OF 'laws.FnExactFamilyDual'. -/
def fnExactFamilyDualCard : Claim7 := { stood := { row := fnExactFamilyDualRow, standIns := [], harness := (true, "cf1d8003702e5bd9c4233bee637092a6179bd5ae9eb2be89f3af892e0dce114c"), looks := false }, kinds := [], alts := [], laidByText := true, laidKinds := [.data, .data], laidTests := true, laidLooks := .later }
def FnExactFamilyDualCardSaid : Prop := Claim7.holds Tryd.pinned (.plain (OpenSpec.ofChange fnExactFamilyDualSpec)) fnExactFamilyDualCard

/-- THE TIED CARD OF 'laws.FnExactFamilyNamed'. -/
def fnExactFamilyNamedCard : Claim7 := { stood := { row := fnExactFamilyNamedRow, standIns := [], harness := (true, "cf1d8003702e5bd9c4233bee637092a6179bd5ae9eb2be89f3af892e0dce114c"), looks := false }, kinds := [], alts := [], laidByText := true, laidKinds := [.data, .data], laidTests := true, laidLooks := .later }
def FnExactFamilyNamedCardSaid : Prop := Claim7.holds Tryd.pinned (.plain (OpenSpec.ofChange fnExactFamilyNamedSpec)) fnExactFamilyNamedCard

/-- THE TIED CARD OF 'laws.FnExactFamilyParts'. -/
def fnExactFamilyPartsCard : Claim7 := { stood := { row := fnExactFamilyPartsRow, standIns := [], harness := (true, "cf1d8003702e5bd9c4233bee637092a6179bd5ae9eb2be89f3af892e0dce114c"), looks := false }, kinds := [], alts := [], laidByText := true, laidKinds := [.data, .data], laidTests := true, laidLooks := .later }
def FnExactFamilyPartsCardSaid : Prop := Claim7.holds Tryd.pinned (.plain (OpenSpec.ofChange fnExactFamilyPartsSpec)) fnExactFamilyPartsCard

/-- THE SECOND FORM's CARD OF 'laws.FnDual'. -/
def fnDualUptoCard : Claim7 := { stood := { row := fnDualUptoRow, standIns := [], harness := (true, "cf1d8003702e5bd9c4233bee637092a6179bd5ae9eb2be89f3af892e0dce114c"), looks := false }, kinds := [], alts := [], laidByText := true, laidKinds := [.data, .data], laidTests := true, laidLooks := .later }
def FnDualUptoCardSaid : Prop := Claim7.holds Tryd.pinned (.plain (OpenSpec.upto fnDualSpec)) fnDualUptoCard

/-- THE SECOND FORM's CARD OF 'laws.FnExactFamilyDegrees'. -/
def fnExactFamilyDegreesUptoCard : Claim7 := { stood := { row := fnExactFamilyDegreesUptoRow, standIns := [], harness := (true, "cf1d8003702e5bd9c4233bee637092a6179bd5ae9eb2be89f3af892e0dce114c"), looks := false }, kinds := [], alts := [], laidByText := true, laidKinds := [.data, .data], laidTests := true, laidLooks := .later }
def FnExactFamilyDegreesUptoCardSaid : Prop := Claim7.holds Tryd.pinned (.plain (OpenSpec.upto fnExactFamilyDegreesSpec)) fnExactFamilyDegreesUptoCard

/-- THE SECOND FORM's CARD OF 'laws.FnExactFamilyDual'. -/
def fnExactFamilyDualUptoCard : Claim7 := { stood := { row := fnExactFamilyDualUptoRow, standIns := [], harness := (true, "cf1d8003702e5bd9c4233bee637092a6179bd5ae9eb2be89f3af892e0dce114c"), looks := false }, kinds := [], alts := [], laidByText := true, laidKinds := [.data, .data], laidTests := true, laidLooks := .later }
def FnExactFamilyDualUptoCardSaid : Prop := Claim7.holds Tryd.pinned (.plain (OpenSpec.upto fnExactFamilyDualSpec)) fnExactFamilyDualUptoCard

/-- THE SECOND FORM's CARD OF 'laws.FnExactFamilyNamed'. -/
def fnExactFamilyNamedUptoCard : Claim7 := { stood := { row := fnExactFamilyNamedUptoRow, standIns := [], harness := (true, "cf1d8003702e5bd9c4233bee637092a6179bd5ae9eb2be89f3af892e0dce114c"), looks := false }, kinds := [], alts := [], laidByText := true, laidKinds := [.data, .data], laidTests := true, laidLooks := .later }
def FnExactFamilyNamedUptoCardSaid : Prop := Claim7.holds Tryd.pinned (.plain (OpenSpec.upto fnExactFamilyNamedSpec)) fnExactFamilyNamedUptoCard

/-- THE SECOND FORM's CARD OF 'laws.FnExactFamilyParts'. -/
def fnExactFamilyPartsUptoCard : Claim7 := { stood := { row := fnExactFamilyPartsUptoRow, standIns := [], harness := (true, "cf1d8003702e5bd9c4233bee637092a6179bd5ae9eb2be89f3af892e0dce114c"), looks := false }, kinds := [], alts := [], laidByText := true, laidKinds := [.data, .data], laidTests := true, laidLooks := .later }
def FnExactFamilyPartsUptoCardSaid : Prop := Claim7.holds Tryd.pinned (.plain (OpenSpec.upto fnExactFamilyPartsSpec)) fnExactFamilyPartsUptoCard
end Rows
end Go.Proofs.YticgojhljmgplaaDoor
