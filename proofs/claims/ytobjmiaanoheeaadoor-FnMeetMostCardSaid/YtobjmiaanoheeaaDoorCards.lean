/-
  DERIVED. GIVEN WITH THE SEED: THE CARDS: each row of YtobjmiaanoheeaaDoorRows.lean that lists a variable, with what it lists TIED to the program's text (the seventh form; the later family's looks); each row that meets fmt, with fmt's text TOLD by the authors' own Lean function (tested against real Go, not proved from fmt's source: count such statements apart). THE CARD IS WHAT COUNTS. Prove the row's statement (the work); the ties are given (YtobjmiaanoheeaaDoorTie.lean); close each card by the builder's one call (the guide's Derived/Test/ToyasCard.lean, 'card_holds'). Laid BY PROGRAM, IN A SANDBOX (cutbox-door.mjs). By AI agents, Wed Nov 11 2026. No macro, syntax, notation, axiom, sorry.
-/
import Derived.Test.YtobjmiaanoheeaaDoorRows
import GoSem.ClaimSeven
namespace Go.Proofs.YtobjmiaanoheeaaDoor
namespace Rows

/-- THE TIED CARD OF 'laws.FnByPairs'. -/
def fnByPairsCard : Claim7 := { stood := { row := fnByPairsRow, standIns := [], harness := (true, "46523e90e1e632113d2beac8df10ac4e5eb3aec8d2e34ee131a615c8b98c62bc"), looks := false }, kinds := [], alts := [], laidByText := true, laidKinds := [.data, .data], laidTests := true, laidLooks := .later }
def FnByPairsCardSaid : Prop := Claim7.holds Tryd.pinned (.plain (OpenSpec.ofChange fnByPairsSpec)) fnByPairsCard

/-- THE TIED CARD OF 'laws.FnNested'. -/
def fnNestedCard : Claim7 := { stood := { row := fnNestedRow, standIns := [], harness := (true, "46523e90e1e632113d2beac8df10ac4e5eb3aec8d2e34ee131a615c8b98c62bc"), looks := false }, kinds := [], alts := [], laidByText := true, laidKinds := [.data, .data], laidTests := true, laidLooks := .later }
def FnNestedCardSaid : Prop := Claim7.holds Tryd.pinned (.plain (OpenSpec.ofChange fnNestedSpec)) fnNestedCard

/-- THE TIED CARD OF 'laws.FnMeetPairs'. -/
def fnMeetPairsCard : Claim7 := { stood := { row := fnMeetPairsRow, standIns := [], harness := (true, "46523e90e1e632113d2beac8df10ac4e5eb3aec8d2e34ee131a615c8b98c62bc"), looks := false }, kinds := [], alts := [], laidByText := true, laidKinds := [.data, .data], laidTests := true, laidLooks := .later }
def FnMeetPairsCardSaid : Prop := Claim7.holds Tryd.pinned (.plain (OpenSpec.ofChange fnMeetPairsSpec)) fnMeetPairsCard

/-- THE TIED CARD OF 'laws.FnMeetClubs'. -/
def fnMeetClubsCard : Claim7 := { stood := { row := fnMeetClubsRow, standIns := [], harness := (true, "46523e90e1e632113d2beac8df10ac4e5eb3aec8d2e34ee131a615c8b98c62bc"), looks := false }, kinds := [], alts := [], laidByText := true, laidKinds := [.data, .data], laidTests := true, laidLooks := .later }
def FnMeetClubsCardSaid : Prop := Claim7.holds Tryd.pinned (.plain (OpenSpec.ofChange fnMeetClubsSpec)) fnMeetClubsCard

/-- THE TIED CARD OF 'laws.FnHelly'. -/
def fnHellyCard : Claim7 := { stood := { row := fnHellyRow, standIns := [], harness := (true, "46523e90e1e632113d2beac8df10ac4e5eb3aec8d2e34ee131a615c8b98c62bc"), looks := false }, kinds := [], alts := [], laidByText := true, laidKinds := [.data, .data], laidTests := true, laidLooks := .later }
def FnHellyCardSaid : Prop := Claim7.holds Tryd.pinned (.plain (OpenSpec.ofChange fnHellySpec)) fnHellyCard

/-- THE TIED CARD OF 'laws.FnFull'. -/
def fnFullCard : Claim7 := { stood := { row := fnFullRow, standIns := [], harness := (true, "46523e90e1e632113d2beac8df10ac4e5eb3aec8d2e34ee131a615c8b98c62bc"), looks := false }, kinds := [], alts := [], laidByText := true, laidKinds := [.data, .data], laidTests := true, laidLooks := .later }
def FnFullCardSaid : Prop := Claim7.holds Tryd.pinned (.plain (OpenSpec.ofChange fnFullSpec)) fnFullCard

/-- THE TIED CARD OF 'laws.FnMeetMost'. -/
def fnMeetMostCard : Claim7 := { stood := { row := fnMeetMostRow, standIns := [], harness := (true, "46523e90e1e632113d2beac8df10ac4e5eb3aec8d2e34ee131a615c8b98c62bc"), looks := false }, kinds := [], alts := [], laidByText := true, laidKinds := [.data, .data], laidTests := true, laidLooks := .later }
def FnMeetMostCardSaid : Prop := Claim7.holds Tryd.pinned (.plain (OpenSpec.ofChange fnMeetMostSpec)) fnMeetMostCard

/-- THE TIED CARD OF 'laws.FnStars'. -/
def fnStarsCard : Claim7 := { stood := { row := fnStarsRow, standIns := [], harness := (true, "46523e90e1e632113d2beac8df10ac4e5eb3aec8d2e34ee131a615c8b98c62bc"), looks := false }, kinds := [], alts := [], laidByText := true, laidKinds := [.data, .data], laidTests := true, laidLooks := .later }
def FnStarsCardSaid : Prop := Claim7.holds Tryd.pinned (.plain (OpenSpec.ofChange fnStarsSpec)) fnStarsCard

/-- THE SECOND FORM's CARD OF 'laws.FnByPairs'. -/
def fnByPairsUptoCard : Claim7 := { stood := { row := fnByPairsUptoRow, standIns := [], harness := (true, "46523e90e1e632113d2beac8df10ac4e5eb3aec8d2e34ee131a615c8b98c62bc"), looks := false }, kinds := [], alts := [], laidByText := true, laidKinds := [.data, .data], laidTests := true, laidLooks := .later }
def FnByPairsUptoCardSaid : Prop := Claim7.holds Tryd.pinned (.plain (OpenSpec.upto fnByPairsSpec)) fnByPairsUptoCard

/-- THE SECOND FORM's CARD OF 'laws.FnNested'. -/
def fnNestedUptoCard : Claim7 := { stood := { row := fnNestedUptoRow, standIns := [], harness := (true, "46523e90e1e632113d2beac8df10ac4e5eb3aec8d2e34ee131a615c8b98c62bc"), looks := false }, kinds := [], alts := [], laidByText := true, laidKinds := [.data, .data], laidTests := true, laidLooks := .later }
def FnNestedUptoCardSaid : Prop := Claim7.holds Tryd.pinned (.plain (OpenSpec.upto fnNestedSpec)) fnNestedUptoCard

/-- THE SECOND FORM's CARD OF 'laws.FnMeetPairs'. -/
def fnMeetPairsUptoCard : Claim7 := { stood := { row := fnMeetPairsUptoRow, standIns := [], harness := (true, "46523e90e1e632113d2beac8df10ac4e5eb3aec8d2e34ee131a615c8b98c62bc"), looks := false }, kinds := [], alts := [], laidByText := true, laidKinds := [.data, .data], laidTests := true, laidLooks := .later }
def FnMeetPairsUptoCardSaid : Prop := Claim7.holds Tryd.pinned (.plain (OpenSpec.upto fnMeetPairsSpec)) fnMeetPairsUptoCard

/-- THE SECOND FORM's CARD OF 'laws.FnMeetClubs'. -/
def fnMeetClubsUptoCard : Claim7 := { stood := { row := fnMeetClubsUptoRow, standIns := [], harness := (true, "46523e90e1e632113d2beac8df10ac4e5eb3aec8d2e34ee131a615c8b98c62bc"), looks := false }, kinds := [], alts := [], laidByText := true, laidKinds := [.data, .data], laidTests := true, laidLooks := .later }
def FnMeetClubsUptoCardSaid : Prop := Claim7.holds Tryd.pinned (.plain (OpenSpec.upto fnMeetClubsSpec)) fnMeetClubsUptoCard

/-- THE SECOND FORM's CARD OF 'laws.FnHelly'. -/
def fnHellyUptoCard : Claim7 := { stood := { row := fnHellyUptoRow, standIns := [], harness := (true, "46523e90e1e632113d2beac8df10ac4e5eb3aec8d2e34ee131a615c8b98c62bc"), looks := false }, kinds := [], alts := [], laidByText := true, laidKinds := [.data, .data], laidTests := true, laidLooks := .later }
def FnHellyUptoCardSaid : Prop := Claim7.holds Tryd.pinned (.plain (OpenSpec.upto fnHellySpec)) fnHellyUptoCard

/-- THE SECOND FORM's CARD OF 'laws.FnFull'. -/
def fnFullUptoCard : Claim7 := { stood := { row := fnFullUptoRow, standIns := [], harness := (true, "46523e90e1e632113d2beac8df10ac4e5eb3aec8d2e34ee131a615c8b98c62bc"), looks := false }, kinds := [], alts := [], laidByText := true, laidKinds := [.data, .data], laidTests := true, laidLooks := .later }
def FnFullUptoCardSaid : Prop := Claim7.holds Tryd.pinned (.plain (OpenSpec.upto fnFullSpec)) fnFullUptoCard

/-- THE SECOND FORM's CARD OF 'laws.FnMeetMost'. -/
def fnMeetMostUptoCard : Claim7 := { stood := { row := fnMeetMostUptoRow, standIns := [], harness := (true, "46523e90e1e632113d2beac8df10ac4e5eb3aec8d2e34ee131a615c8b98c62bc"), looks := false }, kinds := [], alts := [], laidByText := true, laidKinds := [.data, .data], laidTests := true, laidLooks := .later }
def FnMeetMostUptoCardSaid : Prop := Claim7.holds Tryd.pinned (.plain (OpenSpec.upto fnMeetMostSpec)) fnMeetMostUptoCard

/-- THE SECOND FORM's CARD OF 'laws.FnStars'. -/
def fnStarsUptoCard : Claim7 := { stood := { row := fnStarsUptoRow, standIns := [], harness := (true, "46523e90e1e632113d2beac8df10ac4e5eb3aec8d2e34ee131a615c8b98c62bc"), looks := false }, kinds := [], alts := [], laidByText := true, laidKinds := [.data, .data], laidTests := true, laidLooks := .later }
def FnStarsUptoCardSaid : Prop := Claim7.holds Tryd.pinned (.plain (OpenSpec.upto fnStarsSpec)) fnStarsUptoCard
end Rows
end Go.Proofs.YtobjmiaanoheeaaDoor
