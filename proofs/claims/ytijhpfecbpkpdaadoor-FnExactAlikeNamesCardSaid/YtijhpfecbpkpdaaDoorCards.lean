/-
  DERIVED. GIVEN WITH THE SEED: THE CARDS: each row of YtijhpfecbpkpdaaDoorRows.lean that lists a variable, with what it lists TIED to the program's text (the seventh form; the later family's looks); each row that meets fmt, with fmt's text TOLD by the authors' own Lean function (tested against real Go, not proved from fmt's source: count such statements apart). THE CARD IS WHAT COUNTS. Prove the row's statement (the work); the ties are given (YtijhpfecbpkpdaaDoorTie.lean); close each card by the builder's one call (the guide's Derived/Test/ToyasCard.lean, 'card_holds'). Laid BY PROGRAM, IN A SANDBOX (cutbox-door.mjs). By AI agents, Wed Nov 11 2026. No macro, syntax, notation, axiom, sorry.
-/
import Derived.Test.YtijhpfecbpkpdaaDoorRows
import GoSem.ClaimSeven
namespace Go.Proofs.YtijhpfecbpkpdaaDoor
namespace Rows

/-- THE TIED CARD OF 'laws.FnFamily'. -/
def fnFamilyCard : Claim7 := { stood := { row := fnFamilyRow, standIns := [], harness := (true, "91ba06ecca64c13fb4fd763a911794e0e7296d0673d9f9bc653527fe383bfd33"), looks := false }, kinds := [], alts := [], laidByText := true, laidKinds := [.data, .data], laidTests := true, laidLooks := .later }
def FnFamilyCardSaid : Prop := Claim7.holds Tryd.pinned (.plain (OpenSpec.ofChange fnFamilySpec)) fnFamilyCard

/-- THE TIED CARD OF 'laws.FnDegrees'. -/
def fnDegreesCard : Claim7 := { stood := { row := fnDegreesRow, standIns := [], harness := (true, "91ba06ecca64c13fb4fd763a911794e0e7296d0673d9f9bc653527fe383bfd33"), looks := false }, kinds := [], alts := [], laidByText := true, laidKinds := [.data, .data], laidTests := true, laidLooks := .later }
def FnDegreesCardSaid : Prop := Claim7.holds Tryd.pinned (.plain (OpenSpec.ofChange fnDegreesSpec)) fnDegreesCard

/-- THE TIED CARD OF 'laws.FnAll'. -/
def fnAllCard : Claim7 := { stood := { row := fnAllRow, standIns := [], harness := (true, "91ba06ecca64c13fb4fd763a911794e0e7296d0673d9f9bc653527fe383bfd33"), looks := false }, kinds := [], alts := [], laidByText := true, laidKinds := [.data, .data], laidTests := true, laidLooks := .later }
def FnAllCardSaid : Prop := Claim7.holds Tryd.pinned (.plain (OpenSpec.ofChange fnAllSpec)) fnAllCard

/-- THE TIED CARD OF 'laws.FnCommon'. -/
def fnCommonCard : Claim7 := { stood := { row := fnCommonRow, standIns := [], harness := (true, "91ba06ecca64c13fb4fd763a911794e0e7296d0673d9f9bc653527fe383bfd33"), looks := false }, kinds := [], alts := [], laidByText := true, laidKinds := [.data, .data], laidTests := true, laidLooks := .later }
def FnCommonCardSaid : Prop := Claim7.holds Tryd.pinned (.plain (OpenSpec.ofChange fnCommonSpec)) fnCommonCard

/-- THE TIED CARD OF 'laws.FnNamed'. -/
def fnNamedCard : Claim7 := { stood := { row := fnNamedRow, standIns := [], harness := (true, "91ba06ecca64c13fb4fd763a911794e0e7296d0673d9f9bc653527fe383bfd33"), looks := false }, kinds := [], alts := [], laidByText := true, laidKinds := [.data, .data], laidTests := true, laidLooks := .later }
def FnNamedCardSaid : Prop := Claim7.holds Tryd.pinned (.plain (OpenSpec.ofChange fnNamedSpec)) fnNamedCard

/-- THE TIED CARD OF 'laws.FnParts'. -/
def fnPartsCard : Claim7 := { stood := { row := fnPartsRow, standIns := [], harness := (true, "91ba06ecca64c13fb4fd763a911794e0e7296d0673d9f9bc653527fe383bfd33"), looks := false }, kinds := [], alts := [], laidByText := true, laidKinds := [.data, .data], laidTests := true, laidLooks := .later }
def FnPartsCardSaid : Prop := Claim7.holds Tryd.pinned (.plain (OpenSpec.ofChange fnPartsSpec)) fnPartsCard

/-- THE TIED CARD OF 'laws.FnExactAlikeIn'. -/
def fnExactAlikeInCard : Claim7 := { stood := { row := fnExactAlikeInRow, standIns := [], harness := (true, "91ba06ecca64c13fb4fd763a911794e0e7296d0673d9f9bc653527fe383bfd33"), looks := false }, kinds := [], alts := [], laidByText := true, laidKinds := [.data, .data], laidTests := true, laidLooks := .later }
def FnExactAlikeInCardSaid : Prop := Claim7.holds Tryd.pinned (.plain (OpenSpec.ofChange fnExactAlikeInSpec)) fnExactAlikeInCard

/-- THE TIED CARD OF 'laws.FnExactAlikeLeast'. -/
def fnExactAlikeLeastCard : Claim7 := { stood := { row := fnExactAlikeLeastRow, standIns := [], harness := (true, "91ba06ecca64c13fb4fd763a911794e0e7296d0673d9f9bc653527fe383bfd33"), looks := false }, kinds := [], alts := [], laidByText := true, laidKinds := [.data, .data], laidTests := true, laidLooks := .later }
def FnExactAlikeLeastCardSaid : Prop := Claim7.holds Tryd.pinned (.plain (OpenSpec.ofChange fnExactAlikeLeastSpec)) fnExactAlikeLeastCard

/-- THE TIED CARD OF 'laws.FnExactAlikeNames'. -/
def fnExactAlikeNamesCard : Claim7 := { stood := { row := fnExactAlikeNamesRow, standIns := [], harness := (true, "91ba06ecca64c13fb4fd763a911794e0e7296d0673d9f9bc653527fe383bfd33"), looks := false }, kinds := [], alts := [], laidByText := true, laidKinds := [.data, .data], laidTests := true, laidLooks := .later }
def FnExactAlikeNamesCardSaid : Prop := Claim7.holds Tryd.pinned (.plain (OpenSpec.ofChange fnExactAlikeNamesSpec)) fnExactAlikeNamesCard

/-- THE TIED CARD OF 'laws.FnExactAlikeSame'. -/
def fnExactAlikeSameCard : Claim7 := { stood := { row := fnExactAlikeSameRow, standIns := [], harness := (true, "91ba06ecca64c13fb4fd763a911794e0e7296d0673d9f9bc653527fe383bfd33"), looks := false }, kinds := [], alts := [], laidByText := true, laidKinds := [.data, .data], laidTests := true, laidLooks := .later }
def FnExactAlikeSameCardSaid : Prop := Claim7.holds Tryd.pinned (.plain (OpenSpec.ofChange fnExactAlikeSameSpec)) fnExactAlikeSameCard

/-- THE TIED CARD OF 'laws.FnExactAlikeOrbits'. -/
def fnExactAlikeOrbitsCard : Claim7 := { stood := { row := fnExactAlikeOrbitsRow, standIns := [], harness := (true, "91ba06ecca64c13fb4fd763a911794e0e7296d0673d9f9bc653527fe383bfd33"), looks := false }, kinds := [], alts := [], laidByText := true, laidKinds := [.data, .data], laidTests := true, laidLooks := .later }
def FnExactAlikeOrbitsCardSaid : Prop := Claim7.holds Tryd.pinned (.plain (OpenSpec.ofChange fnExactAlikeOrbitsSpec)) fnExactAlikeOrbitsCard

/-- THE SECOND FORM's CARD OF 'laws.FnFamily'. -/
def fnFamilyUptoCard : Claim7 := { stood := { row := fnFamilyUptoRow, standIns := [], harness := (true, "91ba06ecca64c13fb4fd763a911794e0e7296d0673d9f9bc653527fe383bfd33"), looks := false }, kinds := [], alts := [], laidByText := true, laidKinds := [.data, .data], laidTests := true, laidLooks := .later }
def FnFamilyUptoCardSaid : Prop := Claim7.holds Tryd.pinned (.plain (OpenSpec.upto fnFamilySpec)) fnFamilyUptoCard

/-- THE SECOND FORM's CARD OF 'laws.FnDegrees'. -/
def fnDegreesUptoCard : Claim7 := { stood := { row := fnDegreesUptoRow, standIns := [], harness := (true, "91ba06ecca64c13fb4fd763a911794e0e7296d0673d9f9bc653527fe383bfd33"), looks := false }, kinds := [], alts := [], laidByText := true, laidKinds := [.data, .data], laidTests := true, laidLooks := .later }
def FnDegreesUptoCardSaid : Prop := Claim7.holds Tryd.pinned (.plain (OpenSpec.upto fnDegreesSpec)) fnDegreesUptoCard

/-- THE SECOND FORM's CARD OF 'laws.FnAll'. -/
def fnAllUptoCard : Claim7 := { stood := { row := fnAllUptoRow, standIns := [], harness := (true, "91ba06ecca64c13fb4fd763a911794e0e7296d0673d9f9bc653527fe383bfd33"), looks := false }, kinds := [], alts := [], laidByText := true, laidKinds := [.data, .data], laidTests := true, laidLooks := .later }
def FnAllUptoCardSaid : Prop := Claim7.holds Tryd.pinned (.plain (OpenSpec.upto fnAllSpec)) fnAllUptoCard

/-- THE SECOND FORM's CARD OF 'laws.FnCommon'. -/
def fnCommonUptoCard : Claim7 := { stood := { row := fnCommonUptoRow, standIns := [], harness := (true, "91ba06ecca64c13fb4fd763a911794e0e7296d0673d9f9bc653527fe383bfd33"), looks := false }, kinds := [], alts := [], laidByText := true, laidKinds := [.data, .data], laidTests := true, laidLooks := .later }
def FnCommonUptoCardSaid : Prop := Claim7.holds Tryd.pinned (.plain (OpenSpec.upto fnCommonSpec)) fnCommonUptoCard

/-- THE SECOND FORM's CARD OF 'laws.FnNamed'. -/
def fnNamedUptoCard : Claim7 := { stood := { row := fnNamedUptoRow, standIns := [], harness := (true, "91ba06ecca64c13fb4fd763a911794e0e7296d0673d9f9bc653527fe383bfd33"), looks := false }, kinds := [], alts := [], laidByText := true, laidKinds := [.data, .data], laidTests := true, laidLooks := .later }
def FnNamedUptoCardSaid : Prop := Claim7.holds Tryd.pinned (.plain (OpenSpec.upto fnNamedSpec)) fnNamedUptoCard

/-- THE SECOND FORM's CARD OF 'laws.FnParts'. -/
def fnPartsUptoCard : Claim7 := { stood := { row := fnPartsUptoRow, standIns := [], harness := (true, "91ba06ecca64c13fb4fd763a911794e0e7296d0673d9f9bc653527fe383bfd33"), looks := false }, kinds := [], alts := [], laidByText := true, laidKinds := [.data, .data], laidTests := true, laidLooks := .later }
def FnPartsUptoCardSaid : Prop := Claim7.holds Tryd.pinned (.plain (OpenSpec.upto fnPartsSpec)) fnPartsUptoCard

/-- THE SECOND FORM's CARD OF 'laws.FnExactAlikeIn'. -/
def fnExactAlikeInUptoCard : Claim7 := { stood := { row := fnExactAlikeInUptoRow, standIns := [], harness := (true, "91ba06ecca64c13fb4fd763a911794e0e7296d0673d9f9bc653527fe383bfd33"), looks := false }, kinds := [], alts := [], laidByText := true, laidKinds := [.data, .data], laidTests := true, laidLooks := .later }
def FnExactAlikeInUptoCardSaid : Prop := Claim7.holds Tryd.pinned (.plain (OpenSpec.upto fnExactAlikeInSpec)) fnExactAlikeInUptoCard

/-- THE SECOND FORM's CARD OF 'laws.FnExactAlikeLeast'. -/
def fnExactAlikeLeastUptoCard : Claim7 := { stood := { row := fnExactAlikeLeastUptoRow, standIns := [], harness := (true, "91ba06ecca64c13fb4fd763a911794e0e7296d0673d9f9bc653527fe383bfd33"), looks := false }, kinds := [], alts := [], laidByText := true, laidKinds := [.data, .data], laidTests := true, laidLooks := .later }
def FnExactAlikeLeastUptoCardSaid : Prop := Claim7.holds Tryd.pinned (.plain (OpenSpec.upto fnExactAlikeLeastSpec)) fnExactAlikeLeastUptoCard

/-- THE SECOND FORM's CARD OF 'laws.FnExactAlikeNames'. -/
def fnExactAlikeNamesUptoCard : Claim7 := { stood := { row := fnExactAlikeNamesUptoRow, standIns := [], harness := (true, "91ba06ecca64c13fb4fd763a911794e0e7296d0673d9f9bc653527fe383bfd33"), looks := false }, kinds := [], alts := [], laidByText := true, laidKinds := [.data, .data], laidTests := true, laidLooks := .later }
def FnExactAlikeNamesUptoCardSaid : Prop := Claim7.holds Tryd.pinned (.plain (OpenSpec.upto fnExactAlikeNamesSpec)) fnExactAlikeNamesUptoCard

/-- THE SECOND FORM's CARD OF 'laws.FnExactAlikeSame'. -/
def fnExactAlikeSameUptoCard : Claim7 := { stood := { row := fnExactAlikeSameUptoRow, standIns := [], harness := (true, "91ba06ecca64c13fb4fd763a911794e0e7296d0673d9f9bc653527fe383bfd33"), looks := false }, kinds := [], alts := [], laidByText := true, laidKinds := [.data, .data], laidTests := true, laidLooks := .later }
def FnExactAlikeSameUptoCardSaid : Prop := Claim7.holds Tryd.pinned (.plain (OpenSpec.upto fnExactAlikeSameSpec)) fnExactAlikeSameUptoCard

/-- THE SECOND FORM's CARD OF 'laws.FnExactAlikeOrbits'. -/
def fnExactAlikeOrbitsUptoCard : Claim7 := { stood := { row := fnExactAlikeOrbitsUptoRow, standIns := [], harness := (true, "91ba06ecca64c13fb4fd763a911794e0e7296d0673d9f9bc653527fe383bfd33"), looks := false }, kinds := [], alts := [], laidByText := true, laidKinds := [.data, .data], laidTests := true, laidLooks := .later }
def FnExactAlikeOrbitsUptoCardSaid : Prop := Claim7.holds Tryd.pinned (.plain (OpenSpec.upto fnExactAlikeOrbitsSpec)) fnExactAlikeOrbitsUptoCard
end Rows
end Go.Proofs.YtijhpfecbpkpdaaDoor
