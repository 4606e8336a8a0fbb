/-
  DERIVED. GIVEN WITH THE SEED: THE CARDS: each row of YtnpfdgbbcapnkaaDoorRows.lean that lists a variable, with what it lists TIED to the program's text (the seventh form; the later family's looks); each row that meets fmt, with fmt's text TOLD by the authors' own Lean function (tested against real Go, not proved from fmt's source: count such statements apart). THE CARD IS WHAT COUNTS. Prove the row's statement (the work); the ties are given (YtnpfdgbbcapnkaaDoorTie.lean); close each card by the builder's one call (the guide's Derived/Test/ToyasCard.lean, 'card_holds'). Laid BY PROGRAM, IN A SANDBOX (cutbox-door.mjs). By AI agents, Wed Nov 11 2026. No macro, syntax, notation, axiom, sorry.
-/
import Derived.Test.YtnpfdgbbcapnkaaDoorRows
import GoSem.ClaimSeven
namespace Go.Proofs.YtnpfdgbbcapnkaaDoor
namespace Rows

/-- THE TIED CARD OF 'laws.FnFallsRoads'. -/
def fnFallsRoadsCard : Claim7 := { stood := { row := fnFallsRoadsRow, standIns := [], harness := (true, "9f89324e277e1b77803fb73b6c3fe37aa7e286fd14a0cd854da3837d3d93be25"), looks := false }, kinds := [], alts := [], laidByText := true, laidKinds := [.data, .data], laidTests := true, laidLooks := .later }
def FnFallsRoadsCardSaid : Prop := Claim7.holds Tryd.pinned (.plain (OpenSpec.ofChange fnFallsRoadsSpec)) fnFallsRoadsCard

/-- THE TIED CARD OF 'laws.FnOrder'. -/
def fnOrderCard : Claim7 := { stood := { row := fnOrderRow, standIns := [], harness := (true, "9f89324e277e1b77803fb73b6c3fe37aa7e286fd14a0cd854da3837d3d93be25"), looks := false }, kinds := [], alts := [], laidByText := true, laidKinds := [.data, .data], laidTests := true, laidLooks := .later }
def FnOrderCardSaid : Prop := Claim7.holds Tryd.pinned (.plain (OpenSpec.ofChange fnOrderSpec)) fnOrderCard

/-- THE TIED CARD OF 'laws.FnColourMany'. -/
def fnColourManyCard : Claim7 := { stood := { row := fnColourManyRow, standIns := [], harness := (true, "9f89324e277e1b77803fb73b6c3fe37aa7e286fd14a0cd854da3837d3d93be25"), looks := false }, kinds := [], alts := [], laidByText := true, laidKinds := [.data, .data], laidTests := true, laidLooks := .later }
def FnColourManyCardSaid : Prop := Claim7.holds Tryd.pinned (.plain (OpenSpec.ofChange fnColourManySpec)) fnColourManyCard

/-- THE TIED CARD OF 'laws.FnColourFirst'. -/
def fnColourFirstCard : Claim7 := { stood := { row := fnColourFirstRow, standIns := [], harness := (true, "9f89324e277e1b77803fb73b6c3fe37aa7e286fd14a0cd854da3837d3d93be25"), looks := false }, kinds := [], alts := [], laidByText := true, laidKinds := [.data, .data], laidTests := true, laidLooks := .later }
def FnColourFirstCardSaid : Prop := Claim7.holds Tryd.pinned (.plain (OpenSpec.ofChange fnColourFirstSpec)) fnColourFirstCard

/-- THE TIED CARD OF 'laws.FnColourLeast'. -/
def fnColourLeastCard : Claim7 := { stood := { row := fnColourLeastRow, standIns := [], harness := (true, "9f89324e277e1b77803fb73b6c3fe37aa7e286fd14a0cd854da3837d3d93be25"), looks := false }, kinds := [], alts := [], laidByText := true, laidKinds := [.data, .data], laidTests := true, laidLooks := .later }
def FnColourLeastCardSaid : Prop := Claim7.holds Tryd.pinned (.plain (OpenSpec.ofChange fnColourLeastSpec)) fnColourLeastCard

/-- THE TIED CARD OF 'laws.FnUneven'. -/
def fnUnevenCard : Claim7 := { stood := { row := fnUnevenRow, standIns := [], harness := (true, "9f89324e277e1b77803fb73b6c3fe37aa7e286fd14a0cd854da3837d3d93be25"), looks := false }, kinds := [], alts := [], laidByText := true, laidKinds := [.data, .data], laidTests := true, laidLooks := .later }
def FnUnevenCardSaid : Prop := Claim7.holds Tryd.pinned (.plain (OpenSpec.ofChange fnUnevenSpec)) fnUnevenCard

/-- THE TIED CARD OF 'laws.FnColourSets'. -/
def fnColourSetsCard : Claim7 := { stood := { row := fnColourSetsRow, standIns := [], harness := (true, "9f89324e277e1b77803fb73b6c3fe37aa7e286fd14a0cd854da3837d3d93be25"), looks := false }, kinds := [], alts := [], laidByText := true, laidKinds := [.data, .data], laidTests := true, laidLooks := .later }
def FnColourSetsCardSaid : Prop := Claim7.holds Tryd.pinned (.plain (OpenSpec.ofChange fnColourSetsSpec)) fnColourSetsCard

/-- THE TIED CARD OF 'laws.FnProper'. -/
def fnProperCard : Claim7 := { stood := { row := fnProperRow, standIns := [], harness := (true, "9f89324e277e1b77803fb73b6c3fe37aa7e286fd14a0cd854da3837d3d93be25"), looks := false }, kinds := [], alts := [], laidByText := true, laidKinds := [.data, .data], laidTests := true, laidLooks := .later }
def FnProperCardSaid : Prop := Claim7.holds Tryd.pinned (.plain (OpenSpec.ofChange fnProperSpec)) fnProperCard

/-- THE SECOND FORM's CARD OF 'laws.FnFallsRoads'. -/
def fnFallsRoadsUptoCard : Claim7 := { stood := { row := fnFallsRoadsUptoRow, standIns := [], harness := (true, "9f89324e277e1b77803fb73b6c3fe37aa7e286fd14a0cd854da3837d3d93be25"), looks := false }, kinds := [], alts := [], laidByText := true, laidKinds := [.data, .data], laidTests := true, laidLooks := .later }
def FnFallsRoadsUptoCardSaid : Prop := Claim7.holds Tryd.pinned (.plain (OpenSpec.upto fnFallsRoadsSpec)) fnFallsRoadsUptoCard

/-- THE SECOND FORM's CARD OF 'laws.FnOrder'. -/
def fnOrderUptoCard : Claim7 := { stood := { row := fnOrderUptoRow, standIns := [], harness := (true, "9f89324e277e1b77803fb73b6c3fe37aa7e286fd14a0cd854da3837d3d93be25"), looks := false }, kinds := [], alts := [], laidByText := true, laidKinds := [.data, .data], laidTests := true, laidLooks := .later }
def FnOrderUptoCardSaid : Prop := Claim7.holds Tryd.pinned (.plain (OpenSpec.upto fnOrderSpec)) fnOrderUptoCard

/-- THE SECOND FORM's CARD OF 'laws.FnColourMany'. -/
def fnColourManyUptoCard : Claim7 := { stood := { row := fnColourManyUptoRow, standIns := [], harness := (true, "9f89324e277e1b77803fb73b6c3fe37aa7e286fd14a0cd854da3837d3d93be25"), looks := false }, kinds := [], alts := [], laidByText := true, laidKinds := [.data, .data], laidTests := true, laidLooks := .later }
def FnColourManyUptoCardSaid : Prop := Claim7.holds Tryd.pinned (.plain (OpenSpec.upto fnColourManySpec)) fnColourManyUptoCard

/-- THE SECOND FORM's CARD OF 'laws.FnColourFirst'. -/
def fnColourFirstUptoCard : Claim7 := { stood := { row := fnColourFirstUptoRow, standIns := [], harness := (true, "9f89324e277e1b77803fb73b6c3fe37aa7e286fd14a0cd854da3837d3d93be25"), looks := false }, kinds := [], alts := [], laidByText := true, laidKinds := [.data, .data], laidTests := true, laidLooks := .later }
def FnColourFirstUptoCardSaid : Prop := Claim7.holds Tryd.pinned (.plain (OpenSpec.upto fnColourFirstSpec)) fnColourFirstUptoCard

/-- THE SECOND FORM's CARD OF 'laws.FnColourLeast'. -/
def fnColourLeastUptoCard : Claim7 := { stood := { row := fnColourLeastUptoRow, standIns := [], harness := (true, "9f89324e277e1b77803fb73b6c3fe37aa7e286fd14a0cd854da3837d3d93be25"), looks := false }, kinds := [], alts := [], laidByText := true, laidKinds := [.data, .data], laidTests := true, laidLooks := .later }
def FnColourLeastUptoCardSaid : Prop := Claim7.holds Tryd.pinned (.plain (OpenSpec.upto fnColourLeastSpec)) fnColourLeastUptoCard

/-- THE SECOND FORM's CARD OF 'laws.FnUneven'. -/
def fnUnevenUptoCard : Claim7 := { stood := { row := fnUnevenUptoRow, standIns := [], harness := (true, "9f89324e277e1b77803fb73b6c3fe37aa7e286fd14a0cd854da3837d3d93be25"), looks := false }, kinds := [], alts := [], laidByText := true, laidKinds := [.data, .data], laidTests := true, laidLooks := .later }
def FnUnevenUptoCardSaid : Prop := Claim7.holds Tryd.pinned (.plain (OpenSpec.upto fnUnevenSpec)) fnUnevenUptoCard

/-- THE SECOND FORM's CARD OF 'laws.FnColourSets'. -/
def fnColourSetsUptoCard : Claim7 := { stood := { row := fnColourSetsUptoRow, standIns := [], harness := (true, "9f89324e277e1b77803fb73b6c3fe37aa7e286fd14a0cd854da3837d3d93be25"), looks := false }, kinds := [], alts := [], laidByText := true, laidKinds := [.data, .data], laidTests := true, laidLooks := .later }
def FnColourSetsUptoCardSaid : Prop := Claim7.holds Tryd.pinned (.plain (OpenSpec.upto fnColourSetsSpec)) fnColourSetsUptoCard

/-- THE SECOND FORM's CARD OF 'laws.FnProper'. -/
def fnProperUptoCard : Claim7 := { stood := { row := fnProperUptoRow, standIns := [], harness := (true, "9f89324e277e1b77803fb73b6c3fe37aa7e286fd14a0cd854da3837d3d93be25"), looks := false }, kinds := [], alts := [], laidByText := true, laidKinds := [.data, .data], laidTests := true, laidLooks := .later }
def FnProperUptoCardSaid : Prop := Claim7.holds Tryd.pinned (.plain (OpenSpec.upto fnProperSpec)) fnProperUptoCard
end Rows
end Go.Proofs.YtnpfdgbbcapnkaaDoor
