/-
  DERIVED. GIVEN WITH THE SEED: THE CARDS: each row of YtckbhhaigpajpaaDoorRows.lean that lists a variable, with what it lists TIED to the program's text (the seventh form; the later family's looks); each row that meets fmt, with fmt's text TOLD by the authors' own Lean function (tested against real Go, not proved from fmt's source: count such statements apart). THE CARD IS WHAT COUNTS. Prove the row's statement (the work); the ties are given (YtckbhhaigpajpaaDoorTie.lean); close each card by the builder's one call (the guide's Derived/Test/ToyasCard.lean, 'card_holds'). Laid BY PROGRAM, IN A SANDBOX (cutbox-door.mjs). By AI agents, Wed Nov 11 2026. No macro, syntax, notation, axiom, sorry.
-/
import Derived.Test.YtckbhhaigpajpaaDoorRows
import GoSem.ClaimSeven
namespace Go.Proofs.YtckbhhaigpajpaaDoor
namespace Rows

/-- THE TIED CARD OF 'laws.FnFallsRoads'. -/
def fnFallsRoadsCard : Claim7 := { stood := { row := fnFallsRoadsRow, standIns := [], harness := (true, "4f154ba6d535a32de260c4053a9b5512b445c71bee563583817ee7596408747f"), looks := false }, kinds := [], alts := [], laidByText := true, laidKinds := [.data, .data], laidTests := true, laidLooks := .later }
def FnFallsRoadsCardSaid : Prop := Claim7.holds Tryd.pinned (.plain (OpenSpec.ofChange fnFallsRoadsSpec)) fnFallsRoadsCard

/-- THE TIED CARD OF 'laws.FnUneven'. -/
def fnUnevenCard : Claim7 := { stood := { row := fnUnevenRow, standIns := [], harness := (true, "4f154ba6d535a32de260c4053a9b5512b445c71bee563583817ee7596408747f"), looks := false }, kinds := [], alts := [], laidByText := true, laidKinds := [.data, .data], laidTests := true, laidLooks := .later }
def FnUnevenCardSaid : Prop := Claim7.holds Tryd.pinned (.plain (OpenSpec.ofChange fnUnevenSpec)) fnUnevenCard

/-- THE TIED CARD OF 'laws.FnByPairs'. -/
def fnByPairsCard : Claim7 := { stood := { row := fnByPairsRow, standIns := [], harness := (true, "4f154ba6d535a32de260c4053a9b5512b445c71bee563583817ee7596408747f"), looks := false }, kinds := [], alts := [], laidByText := true, laidKinds := [.data, .data], laidTests := true, laidLooks := .later }
def FnByPairsCardSaid : Prop := Claim7.holds Tryd.pinned (.plain (OpenSpec.ofChange fnByPairsSpec)) fnByPairsCard

/-- THE TIED CARD OF 'laws.FnNested'. -/
def fnNestedCard : Claim7 := { stood := { row := fnNestedRow, standIns := [], harness := (true, "4f154ba6d535a32de260c4053a9b5512b445c71bee563583817ee7596408747f"), looks := false }, kinds := [], alts := [], laidByText := true, laidKinds := [.data, .data], laidTests := true, laidLooks := .later }
def FnNestedCardSaid : Prop := Claim7.holds Tryd.pinned (.plain (OpenSpec.ofChange fnNestedSpec)) fnNestedCard

/-- THE TIED CARD OF 'laws.FnExactEarByPairs'. -/
def fnExactEarByPairsCard : Claim7 := { stood := { row := fnExactEarByPairsRow, standIns := [], harness := (true, "4f154ba6d535a32de260c4053a9b5512b445c71bee563583817ee7596408747f"), looks := false }, kinds := [], alts := [], laidByText := true, laidKinds := [.data, .data], laidTests := true, laidLooks := .later }
def FnExactEarByPairsCardSaid : Prop := Claim7.holds Tryd.pinned (.plain (OpenSpec.ofChange fnExactEarByPairsSpec)) fnExactEarByPairsCard

/-- THE TIED CARD OF 'laws.FnExactColourUneven'. -/
def fnExactColourUnevenCard : Claim7 := { stood := { row := fnExactColourUnevenRow, standIns := [], harness := (true, "4f154ba6d535a32de260c4053a9b5512b445c71bee563583817ee7596408747f"), looks := false }, kinds := [], alts := [], laidByText := true, laidKinds := [.data, .data], laidTests := true, laidLooks := .later }
def FnExactColourUnevenCardSaid : Prop := Claim7.holds Tryd.pinned (.plain (OpenSpec.ofChange fnExactColourUnevenSpec)) fnExactColourUnevenCard

/-- THE SECOND FORM's CARD OF 'laws.FnFallsRoads'. -/
def fnFallsRoadsUptoCard : Claim7 := { stood := { row := fnFallsRoadsUptoRow, standIns := [], harness := (true, "4f154ba6d535a32de260c4053a9b5512b445c71bee563583817ee7596408747f"), looks := false }, kinds := [], alts := [], laidByText := true, laidKinds := [.data, .data], laidTests := true, laidLooks := .later }
def FnFallsRoadsUptoCardSaid : Prop := Claim7.holds Tryd.pinned (.plain (OpenSpec.upto fnFallsRoadsSpec)) fnFallsRoadsUptoCard

/-- THE SECOND FORM's CARD OF 'laws.FnUneven'. -/
def fnUnevenUptoCard : Claim7 := { stood := { row := fnUnevenUptoRow, standIns := [], harness := (true, "4f154ba6d535a32de260c4053a9b5512b445c71bee563583817ee7596408747f"), looks := false }, kinds := [], alts := [], laidByText := true, laidKinds := [.data, .data], laidTests := true, laidLooks := .later }
def FnUnevenUptoCardSaid : Prop := Claim7.holds Tryd.pinned (.plain (OpenSpec.upto fnUnevenSpec)) fnUnevenUptoCard

/-- THE SECOND FORM's CARD OF 'laws.FnByPairs'. -/
def fnByPairsUptoCard : Claim7 := { stood := { row := fnByPairsUptoRow, standIns := [], harness := (true, "4f154ba6d535a32de260c4053a9b5512b445c71bee563583817ee7596408747f"), looks := false }, kinds := [], alts := [], laidByText := true, laidKinds := [.data, .data], laidTests := true, laidLooks := .later }
def FnByPairsUptoCardSaid : Prop := Claim7.holds Tryd.pinned (.plain (OpenSpec.upto fnByPairsSpec)) fnByPairsUptoCard

/-- THE SECOND FORM's CARD OF 'laws.FnNested'. -/
def fnNestedUptoCard : Claim7 := { stood := { row := fnNestedUptoRow, standIns := [], harness := (true, "4f154ba6d535a32de260c4053a9b5512b445c71bee563583817ee7596408747f"), looks := false }, kinds := [], alts := [], laidByText := true, laidKinds := [.data, .data], laidTests := true, laidLooks := .later }
def FnNestedUptoCardSaid : Prop := Claim7.holds Tryd.pinned (.plain (OpenSpec.upto fnNestedSpec)) fnNestedUptoCard

/-- THE SECOND FORM's CARD OF 'laws.FnExactEarByPairs'. -/
def fnExactEarByPairsUptoCard : Claim7 := { stood := { row := fnExactEarByPairsUptoRow, standIns := [], harness := (true, "4f154ba6d535a32de260c4053a9b5512b445c71bee563583817ee7596408747f"), looks := false }, kinds := [], alts := [], laidByText := true, laidKinds := [.data, .data], laidTests := true, laidLooks := .later }
def FnExactEarByPairsUptoCardSaid : Prop := Claim7.holds Tryd.pinned (.plain (OpenSpec.upto fnExactEarByPairsSpec)) fnExactEarByPairsUptoCard

/-- THE SECOND FORM's CARD OF 'laws.FnExactColourUneven'. -/
def fnExactColourUnevenUptoCard : Claim7 := { stood := { row := fnExactColourUnevenUptoRow, standIns := [], harness := (true, "4f154ba6d535a32de260c4053a9b5512b445c71bee563583817ee7596408747f"), looks := false }, kinds := [], alts := [], laidByText := true, laidKinds := [.data, .data], laidTests := true, laidLooks := .later }
def FnExactColourUnevenUptoCardSaid : Prop := Claim7.holds Tryd.pinned (.plain (OpenSpec.upto fnExactColourUnevenSpec)) fnExactColourUnevenUptoCard
end Rows
end Go.Proofs.YtckbhhaigpajpaaDoor
