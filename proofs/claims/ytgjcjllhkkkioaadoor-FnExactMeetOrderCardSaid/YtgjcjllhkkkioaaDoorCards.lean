/-
  DERIVED. GIVEN WITH THE SEED: THE CARDS: each row of YtgjcjllhkkkioaaDoorRows.lean that lists a variable, with what it lists TIED to the program's text (the seventh form; the later family's looks); each row that meets fmt, with fmt's text TOLD by the authors' own Lean function (tested against real Go, not proved from fmt's source: count such statements apart). THE CARD IS WHAT COUNTS. Prove the row's statement (the work); the ties are given (YtgjcjllhkkkioaaDoorTie.lean); close each card by the builder's one call (the guide's Derived/Test/ToyasCard.lean, 'card_holds'). Laid BY PROGRAM, IN A SANDBOX (cutbox-door.mjs). By AI agents, Wed Nov 11 2026. No macro, syntax, notation, axiom, sorry.
-/
import Derived.Test.YtgjcjllhkkkioaaDoorRows
import GoSem.ClaimSeven
namespace Go.Proofs.YtgjcjllhkkkioaaDoor
namespace Rows

/-- THE TIED CARD OF 'laws.FnExactFamilyDual'. -/
def fnExactFamilyDualCard : Claim7 := { stood := { row := fnExactFamilyDualRow, standIns := [], harness := (true, "22bd530d3876704c7b6b17a7dce142465fe51d6382f44a23b43d9ed8bbb80b43"), looks := false }, kinds := [], alts := [], laidByText := true, laidKinds := [.data, .data], laidTests := true, laidLooks := .later }
def FnExactFamilyDualCardSaid : Prop := Claim7.holds Tryd.pinned (.plain (OpenSpec.ofChange fnExactFamilyDualSpec)) fnExactFamilyDualCard

/-- THE TIED CARD OF 'laws.FnExactMeetClubs'. -/
def fnExactMeetClubsCard : Claim7 := { stood := { row := fnExactMeetClubsRow, standIns := [], harness := (true, "22bd530d3876704c7b6b17a7dce142465fe51d6382f44a23b43d9ed8bbb80b43"), looks := false }, kinds := [], alts := [], laidByText := true, laidKinds := [.data, .data], laidTests := true, laidLooks := .later }
def FnExactMeetClubsCardSaid : Prop := Claim7.holds Tryd.pinned (.plain (OpenSpec.ofChange fnExactMeetClubsSpec)) fnExactMeetClubsCard

/-- THE TIED CARD OF 'laws.FnExactMeetHelly'. -/
def fnExactMeetHellyCard : Claim7 := { stood := { row := fnExactMeetHellyRow, standIns := [], harness := (true, "22bd530d3876704c7b6b17a7dce142465fe51d6382f44a23b43d9ed8bbb80b43"), looks := false }, kinds := [], alts := [], laidByText := true, laidKinds := [.data, .data], laidTests := true, laidLooks := .later }
def FnExactMeetHellyCardSaid : Prop := Claim7.holds Tryd.pinned (.plain (OpenSpec.ofChange fnExactMeetHellySpec)) fnExactMeetHellyCard

/-- THE TIED CARD OF 'laws.FnExactMeetFull'. -/
def fnExactMeetFullCard : Claim7 := { stood := { row := fnExactMeetFullRow, standIns := [], harness := (true, "22bd530d3876704c7b6b17a7dce142465fe51d6382f44a23b43d9ed8bbb80b43"), looks := false }, kinds := [], alts := [], laidByText := true, laidKinds := [.data, .data], laidTests := true, laidLooks := .later }
def FnExactMeetFullCardSaid : Prop := Claim7.holds Tryd.pinned (.plain (OpenSpec.ofChange fnExactMeetFullSpec)) fnExactMeetFullCard

/-- THE TIED CARD OF 'laws.FnExactMeetOrder'. -/
def fnExactMeetOrderCard : Claim7 := { stood := { row := fnExactMeetOrderRow, standIns := [], harness := (true, "22bd530d3876704c7b6b17a7dce142465fe51d6382f44a23b43d9ed8bbb80b43"), looks := false }, kinds := [], alts := [], laidByText := true, laidKinds := [.data, .data], laidTests := true, laidLooks := .later }
def FnExactMeetOrderCardSaid : Prop := Claim7.holds Tryd.pinned (.plain (OpenSpec.ofChange fnExactMeetOrderSpec)) fnExactMeetOrderCard

/-- THE TIED CARD OF 'laws.FnExactMeetMost'. -/
def fnExactMeetMostCard : Claim7 := { stood := { row := fnExactMeetMostRow, standIns := [], harness := (true, "22bd530d3876704c7b6b17a7dce142465fe51d6382f44a23b43d9ed8bbb80b43"), looks := false }, kinds := [], alts := [], laidByText := true, laidKinds := [.data, .data], laidTests := true, laidLooks := .later }
def FnExactMeetMostCardSaid : Prop := Claim7.holds Tryd.pinned (.plain (OpenSpec.ofChange fnExactMeetMostSpec)) fnExactMeetMostCard

/-- THE TIED CARD OF 'laws.FnExactMeetStars'. -/
def fnExactMeetStarsCard : Claim7 := { stood := { row := fnExactMeetStarsRow, standIns := [], harness := (true, "22bd530d3876704c7b6b17a7dce142465fe51d6382f44a23b43d9ed8bbb80b43"), looks := false }, kinds := [], alts := [], laidByText := true, laidKinds := [.data, .data], laidTests := true, laidLooks := .later }
def FnExactMeetStarsCardSaid : Prop := Claim7.holds Tryd.pinned (.plain (OpenSpec.ofChange fnExactMeetStarsSpec)) fnExactMeetStarsCard

/-- THE SECOND FORM's CARD OF 'laws.FnExactFamilyDual'. -/
def fnExactFamilyDualUptoCard : Claim7 := { stood := { row := fnExactFamilyDualUptoRow, standIns := [], harness := (true, "22bd530d3876704c7b6b17a7dce142465fe51d6382f44a23b43d9ed8bbb80b43"), looks := false }, kinds := [], alts := [], laidByText := true, laidKinds := [.data, .data], laidTests := true, laidLooks := .later }
def FnExactFamilyDualUptoCardSaid : Prop := Claim7.holds Tryd.pinned (.plain (OpenSpec.upto fnExactFamilyDualSpec)) fnExactFamilyDualUptoCard

/-- THE SECOND FORM's CARD OF 'laws.FnExactMeetClubs'. -/
def fnExactMeetClubsUptoCard : Claim7 := { stood := { row := fnExactMeetClubsUptoRow, standIns := [], harness := (true, "22bd530d3876704c7b6b17a7dce142465fe51d6382f44a23b43d9ed8bbb80b43"), looks := false }, kinds := [], alts := [], laidByText := true, laidKinds := [.data, .data], laidTests := true, laidLooks := .later }
def FnExactMeetClubsUptoCardSaid : Prop := Claim7.holds Tryd.pinned (.plain (OpenSpec.upto fnExactMeetClubsSpec)) fnExactMeetClubsUptoCard

/-- THE SECOND FORM's CARD OF 'laws.FnExactMeetHelly'. -/
def fnExactMeetHellyUptoCard : Claim7 := { stood := { row := fnExactMeetHellyUptoRow, standIns := [], harness := (true, "22bd530d3876704c7b6b17a7dce142465fe51d6382f44a23b43d9ed8bbb80b43"), looks := false }, kinds := [], alts := [], laidByText := true, laidKinds := [.data, .data], laidTests := true, laidLooks := .later }
def FnExactMeetHellyUptoCardSaid : Prop := Claim7.holds Tryd.pinned (.plain (OpenSpec.upto fnExactMeetHellySpec)) fnExactMeetHellyUptoCard

/-- THE SECOND FORM's CARD OF 'laws.FnExactMeetFull'. -/
def fnExactMeetFullUptoCard : Claim7 := { stood := { row := fnExactMeetFullUptoRow, standIns := [], harness := (true, "22bd530d3876704c7b6b17a7dce142465fe51d6382f44a23b43d9ed8bbb80b43"), looks := false }, kinds := [], alts := [], laidByText := true, laidKinds := [.data, .data], laidTests := true, laidLooks := .later }
def FnExactMeetFullUptoCardSaid : Prop := Claim7.holds Tryd.pinned (.plain (OpenSpec.upto fnExactMeetFullSpec)) fnExactMeetFullUptoCard

/-- THE SECOND FORM's CARD OF 'laws.FnExactMeetOrder'. -/
def fnExactMeetOrderUptoCard : Claim7 := { stood := { row := fnExactMeetOrderUptoRow, standIns := [], harness := (true, "22bd530d3876704c7b6b17a7dce142465fe51d6382f44a23b43d9ed8bbb80b43"), looks := false }, kinds := [], alts := [], laidByText := true, laidKinds := [.data, .data], laidTests := true, laidLooks := .later }
def FnExactMeetOrderUptoCardSaid : Prop := Claim7.holds Tryd.pinned (.plain (OpenSpec.upto fnExactMeetOrderSpec)) fnExactMeetOrderUptoCard

/-- THE SECOND FORM's CARD OF 'laws.FnExactMeetMost'. -/
def fnExactMeetMostUptoCard : Claim7 := { stood := { row := fnExactMeetMostUptoRow, standIns := [], harness := (true, "22bd530d3876704c7b6b17a7dce142465fe51d6382f44a23b43d9ed8bbb80b43"), looks := false }, kinds := [], alts := [], laidByText := true, laidKinds := [.data, .data], laidTests := true, laidLooks := .later }
def FnExactMeetMostUptoCardSaid : Prop := Claim7.holds Tryd.pinned (.plain (OpenSpec.upto fnExactMeetMostSpec)) fnExactMeetMostUptoCard

/-- THE SECOND FORM's CARD OF 'laws.FnExactMeetStars'. -/
def fnExactMeetStarsUptoCard : Claim7 := { stood := { row := fnExactMeetStarsUptoRow, standIns := [], harness := (true, "22bd530d3876704c7b6b17a7dce142465fe51d6382f44a23b43d9ed8bbb80b43"), looks := false }, kinds := [], alts := [], laidByText := true, laidKinds := [.data, .data], laidTests := true, laidLooks := .later }
def FnExactMeetStarsUptoCardSaid : Prop := Claim7.holds Tryd.pinned (.plain (OpenSpec.upto fnExactMeetStarsSpec)) fnExactMeetStarsUptoCard
end Rows
end Go.Proofs.YtgjcjllhkkkioaaDoor
