/-
  DERIVED. GIVEN WITH THE SEED: THE CARDS: each row of YtphddemilibooaaDoorRows.lean that lists a variable, with what it lists TIED to the program's text (the seventh form; the later family's looks); each row that meets fmt, with fmt's text TOLD by the authors' own Lean function (tested against real Go, not proved from fmt's source: count such statements apart). THE CARD IS WHAT COUNTS. Prove the row's statement (the work); the ties are given (YtphddemilibooaaDoorTie.lean); close each card by the builder's one call (the guide's Derived/Test/ToyasCard.lean, 'card_holds'). Laid BY PROGRAM, IN A SANDBOX (cutbox-door.mjs). By AI agents, Wed Nov 11 2026. No macro, syntax, notation, axiom, sorry.
-/
import Derived.Test.YtphddemilibooaaDoorRows
import GoSem.ClaimSeven
namespace Go.Proofs.YtphddemilibooaaDoor
namespace Rows

/-- THE TIED CARD OF 'laws.FnSmall'. -/
def fnSmallCard : Claim7 := { stood := { row := fnSmallRow, standIns := [], harness := (true, "f8c12b0f557e2953e0b4145cd6de8b8ecc74edb24ac8e0a5c7e3bc0be8c21bcf"), looks := false }, kinds := [], alts := [], laidByText := true, laidKinds := [.data, .data], laidTests := true, laidLooks := .later }
def FnSmallCardSaid : Prop := Claim7.holds Tryd.pinned (.plain (OpenSpec.ofChange fnSmallSpec)) fnSmallCard

/-- THE TIED CARD OF 'laws.FnForestCount'. -/
def fnForestCountCard : Claim7 := { stood := { row := fnForestCountRow, standIns := [], harness := (true, "f8c12b0f557e2953e0b4145cd6de8b8ecc74edb24ac8e0a5c7e3bc0be8c21bcf"), looks := false }, kinds := [], alts := [], laidByText := true, laidKinds := [.data, .data], laidTests := true, laidLooks := .later }
def FnForestCountCardSaid : Prop := Claim7.holds Tryd.pinned (.plain (OpenSpec.ofChange fnForestCountSpec)) fnForestCountCard

/-- THE TIED CARD OF 'laws.FnColourMany'. -/
def fnColourManyCard : Claim7 := { stood := { row := fnColourManyRow, standIns := [], harness := (true, "f8c12b0f557e2953e0b4145cd6de8b8ecc74edb24ac8e0a5c7e3bc0be8c21bcf"), looks := false }, kinds := [], alts := [], laidByText := true, laidKinds := [.data, .data], laidTests := true, laidLooks := .later }
def FnColourManyCardSaid : Prop := Claim7.holds Tryd.pinned (.plain (OpenSpec.ofChange fnColourManySpec)) fnColourManyCard

/-- THE TIED CARD OF 'laws.FnProper'. -/
def fnProperCard : Claim7 := { stood := { row := fnProperRow, standIns := [], harness := (true, "f8c12b0f557e2953e0b4145cd6de8b8ecc74edb24ac8e0a5c7e3bc0be8c21bcf"), looks := false }, kinds := [], alts := [], laidByText := true, laidKinds := [.data, .data], laidTests := true, laidLooks := .later }
def FnProperCardSaid : Prop := Claim7.holds Tryd.pinned (.plain (OpenSpec.ofChange fnProperSpec)) fnProperCard

/-- THE SECOND FORM's CARD OF 'laws.FnSmall'. -/
def fnSmallUptoCard : Claim7 := { stood := { row := fnSmallUptoRow, standIns := [], harness := (true, "f8c12b0f557e2953e0b4145cd6de8b8ecc74edb24ac8e0a5c7e3bc0be8c21bcf"), looks := false }, kinds := [], alts := [], laidByText := true, laidKinds := [.data, .data], laidTests := true, laidLooks := .later }
def FnSmallUptoCardSaid : Prop := Claim7.holds Tryd.pinned (.plain (OpenSpec.upto fnSmallSpec)) fnSmallUptoCard

/-- THE SECOND FORM's CARD OF 'laws.FnForestCount'. -/
def fnForestCountUptoCard : Claim7 := { stood := { row := fnForestCountUptoRow, standIns := [], harness := (true, "f8c12b0f557e2953e0b4145cd6de8b8ecc74edb24ac8e0a5c7e3bc0be8c21bcf"), looks := false }, kinds := [], alts := [], laidByText := true, laidKinds := [.data, .data], laidTests := true, laidLooks := .later }
def FnForestCountUptoCardSaid : Prop := Claim7.holds Tryd.pinned (.plain (OpenSpec.upto fnForestCountSpec)) fnForestCountUptoCard

/-- THE SECOND FORM's CARD OF 'laws.FnColourMany'. -/
def fnColourManyUptoCard : Claim7 := { stood := { row := fnColourManyUptoRow, standIns := [], harness := (true, "f8c12b0f557e2953e0b4145cd6de8b8ecc74edb24ac8e0a5c7e3bc0be8c21bcf"), looks := false }, kinds := [], alts := [], laidByText := true, laidKinds := [.data, .data], laidTests := true, laidLooks := .later }
def FnColourManyUptoCardSaid : Prop := Claim7.holds Tryd.pinned (.plain (OpenSpec.upto fnColourManySpec)) fnColourManyUptoCard

/-- THE SECOND FORM's CARD OF 'laws.FnProper'. -/
def fnProperUptoCard : Claim7 := { stood := { row := fnProperUptoRow, standIns := [], harness := (true, "f8c12b0f557e2953e0b4145cd6de8b8ecc74edb24ac8e0a5c7e3bc0be8c21bcf"), looks := false }, kinds := [], alts := [], laidByText := true, laidKinds := [.data, .data], laidTests := true, laidLooks := .later }
def FnProperUptoCardSaid : Prop := Claim7.holds Tryd.pinned (.plain (OpenSpec.upto fnProperSpec)) fnProperUptoCard
end Rows
end Go.Proofs.YtphddemilibooaaDoor
