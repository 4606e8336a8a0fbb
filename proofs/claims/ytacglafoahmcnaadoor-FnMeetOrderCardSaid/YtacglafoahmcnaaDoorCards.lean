/-
  DERIVED. GIVEN WITH THE SEED: THE CARDS: each row of YtacglafoahmcnaaDoorRows.lean that lists a variable, with what it lists TIED to the program's text (the seventh form; the later family's looks); each row that meets fmt, with fmt's text TOLD by the authors' own Lean function (tested against real Go, not proved from fmt's source: count such statements apart). THE CARD IS WHAT COUNTS. Prove the row's statement (the work); the ties are given (YtacglafoahmcnaaDoorTie.lean); close each card by the builder's one call (the guide's Derived/Test/ToyasCard.lean, 'card_holds'). Laid BY PROGRAM, IN A SANDBOX (cutbox-door.mjs). By AI agents, Wed Nov 11 2026. No macro, syntax, notation, axiom, sorry.
-/
import Derived.Test.YtacglafoahmcnaaDoorRows
import GoSem.ClaimSeven
namespace Go.Proofs.YtacglafoahmcnaaDoor
namespace Rows

/-- THE TIED CARD OF 'laws.FnDegrees'. -/
def fnDegreesCard : Claim7 := { stood := { row := fnDegreesRow, standIns := [], harness := (true, "41e536b5bfc4c2a01d37254a4737b9e954d9057a3da9d2cfabbecc277ad159a9"), looks := false }, kinds := [], alts := [], laidByText := true, laidKinds := [.data, .data], laidTests := true, laidLooks := .later }
def FnDegreesCardSaid : Prop := Claim7.holds Tryd.pinned (.plain (OpenSpec.ofChange fnDegreesSpec)) fnDegreesCard

/-- THE TIED CARD OF 'laws.FnDual'. -/
def fnDualCard : Claim7 := { stood := { row := fnDualRow, standIns := [], harness := (true, "41e536b5bfc4c2a01d37254a4737b9e954d9057a3da9d2cfabbecc277ad159a9"), looks := false }, kinds := [], alts := [], laidByText := true, laidKinds := [.data, .data], laidTests := true, laidLooks := .later }
def FnDualCardSaid : Prop := Claim7.holds Tryd.pinned (.plain (OpenSpec.ofChange fnDualSpec)) fnDualCard

/-- THE TIED CARD OF 'laws.FnOrder'. -/
def fnOrderCard : Claim7 := { stood := { row := fnOrderRow, standIns := [], harness := (true, "41e536b5bfc4c2a01d37254a4737b9e954d9057a3da9d2cfabbecc277ad159a9"), looks := false }, kinds := [], alts := [], laidByText := true, laidKinds := [.data, .data], laidTests := true, laidLooks := .later }
def FnOrderCardSaid : Prop := Claim7.holds Tryd.pinned (.plain (OpenSpec.ofChange fnOrderSpec)) fnOrderCard

/-- THE TIED CARD OF 'laws.FnColourLeast'. -/
def fnColourLeastCard : Claim7 := { stood := { row := fnColourLeastRow, standIns := [], harness := (true, "41e536b5bfc4c2a01d37254a4737b9e954d9057a3da9d2cfabbecc277ad159a9"), looks := false }, kinds := [], alts := [], laidByText := true, laidKinds := [.data, .data], laidTests := true, laidLooks := .later }
def FnColourLeastCardSaid : Prop := Claim7.holds Tryd.pinned (.plain (OpenSpec.ofChange fnColourLeastSpec)) fnColourLeastCard

/-- THE TIED CARD OF 'laws.FnUneven'. -/
def fnUnevenCard : Claim7 := { stood := { row := fnUnevenRow, standIns := [], harness := (true, "41e536b5bfc4c2a01d37254a4737b9e954d9057a3da9d2cfabbecc277ad159a9"), looks := false }, kinds := [], alts := [], laidByText := true, laidKinds := [.data, .data], laidTests := true, laidLooks := .later }
def FnUnevenCardSaid : Prop := Claim7.holds Tryd.pinned (.plain (OpenSpec.ofChange fnUnevenSpec)) fnUnevenCard

/-- THE TIED CARD OF 'laws.FnMeetOrder'. -/
def fnMeetOrderCard : Claim7 := { stood := { row := fnMeetOrderRow, standIns := [], harness := (true, "41e536b5bfc4c2a01d37254a4737b9e954d9057a3da9d2cfabbecc277ad159a9"), looks := false }, kinds := [], alts := [], laidByText := true, laidKinds := [.data, .data], laidTests := true, laidLooks := .later }
def FnMeetOrderCardSaid : Prop := Claim7.holds Tryd.pinned (.plain (OpenSpec.ofChange fnMeetOrderSpec)) fnMeetOrderCard

/-- THE TIED CARD OF 'laws.FnExactEarOrder'. -/
def fnExactEarOrderCard : Claim7 := { stood := { row := fnExactEarOrderRow, standIns := [], harness := (true, "41e536b5bfc4c2a01d37254a4737b9e954d9057a3da9d2cfabbecc277ad159a9"), looks := false }, kinds := [], alts := [], laidByText := true, laidKinds := [.data, .data], laidTests := true, laidLooks := .later }
def FnExactEarOrderCardSaid : Prop := Claim7.holds Tryd.pinned (.plain (OpenSpec.ofChange fnExactEarOrderSpec)) fnExactEarOrderCard

/-- THE TIED CARD OF 'laws.FnExactColourUneven'. -/
def fnExactColourUnevenCard : Claim7 := { stood := { row := fnExactColourUnevenRow, standIns := [], harness := (true, "41e536b5bfc4c2a01d37254a4737b9e954d9057a3da9d2cfabbecc277ad159a9"), looks := false }, kinds := [], alts := [], laidByText := true, laidKinds := [.data, .data], laidTests := true, laidLooks := .later }
def FnExactColourUnevenCardSaid : Prop := Claim7.holds Tryd.pinned (.plain (OpenSpec.ofChange fnExactColourUnevenSpec)) fnExactColourUnevenCard

/-- THE SECOND FORM's CARD OF 'laws.FnDegrees'. -/
def fnDegreesUptoCard : Claim7 := { stood := { row := fnDegreesUptoRow, standIns := [], harness := (true, "41e536b5bfc4c2a01d37254a4737b9e954d9057a3da9d2cfabbecc277ad159a9"), looks := false }, kinds := [], alts := [], laidByText := true, laidKinds := [.data, .data], laidTests := true, laidLooks := .later }
def FnDegreesUptoCardSaid : Prop := Claim7.holds Tryd.pinned (.plain (OpenSpec.upto fnDegreesSpec)) fnDegreesUptoCard

/-- THE SECOND FORM's CARD OF 'laws.FnDual'. -/
def fnDualUptoCard : Claim7 := { stood := { row := fnDualUptoRow, standIns := [], harness := (true, "41e536b5bfc4c2a01d37254a4737b9e954d9057a3da9d2cfabbecc277ad159a9"), looks := false }, kinds := [], alts := [], laidByText := true, laidKinds := [.data, .data], laidTests := true, laidLooks := .later }
def FnDualUptoCardSaid : Prop := Claim7.holds Tryd.pinned (.plain (OpenSpec.upto fnDualSpec)) fnDualUptoCard

/-- THE SECOND FORM's CARD OF 'laws.FnOrder'. -/
def fnOrderUptoCard : Claim7 := { stood := { row := fnOrderUptoRow, standIns := [], harness := (true, "41e536b5bfc4c2a01d37254a4737b9e954d9057a3da9d2cfabbecc277ad159a9"), looks := false }, kinds := [], alts := [], laidByText := true, laidKinds := [.data, .data], laidTests := true, laidLooks := .later }
def FnOrderUptoCardSaid : Prop := Claim7.holds Tryd.pinned (.plain (OpenSpec.upto fnOrderSpec)) fnOrderUptoCard

/-- THE SECOND FORM's CARD OF 'laws.FnColourLeast'. -/
def fnColourLeastUptoCard : Claim7 := { stood := { row := fnColourLeastUptoRow, standIns := [], harness := (true, "41e536b5bfc4c2a01d37254a4737b9e954d9057a3da9d2cfabbecc277ad159a9"), looks := false }, kinds := [], alts := [], laidByText := true, laidKinds := [.data, .data], laidTests := true, laidLooks := .later }
def FnColourLeastUptoCardSaid : Prop := Claim7.holds Tryd.pinned (.plain (OpenSpec.upto fnColourLeastSpec)) fnColourLeastUptoCard

/-- THE SECOND FORM's CARD OF 'laws.FnUneven'. -/
def fnUnevenUptoCard : Claim7 := { stood := { row := fnUnevenUptoRow, standIns := [], harness := (true, "41e536b5bfc4c2a01d37254a4737b9e954d9057a3da9d2cfabbecc277ad159a9"), looks := false }, kinds := [], alts := [], laidByText := true, laidKinds := [.data, .data], laidTests := true, laidLooks := .later }
def FnUnevenUptoCardSaid : Prop := Claim7.holds Tryd.pinned (.plain (OpenSpec.upto fnUnevenSpec)) fnUnevenUptoCard

/-- THE SECOND FORM's CARD OF 'laws.FnMeetOrder'. -/
def fnMeetOrderUptoCard : Claim7 := { stood := { row := fnMeetOrderUptoRow, standIns := [], harness := (true, "41e536b5bfc4c2a01d37254a4737b9e954d9057a3da9d2cfabbecc277ad159a9"), looks := false }, kinds := [], alts := [], laidByText := true, laidKinds := [.data, .data], laidTests := true, laidLooks := .later }
def FnMeetOrderUptoCardSaid : Prop := Claim7.holds Tryd.pinned (.plain (OpenSpec.upto fnMeetOrderSpec)) fnMeetOrderUptoCard

/-- THE SECOND FORM's CARD OF 'laws.FnExactEarOrder'. -/
def fnExactEarOrderUptoCard : Claim7 := { stood := { row := fnExactEarOrderUptoRow, standIns := [], harness := (true, "41e536b5bfc4c2a01d37254a4737b9e954d9057a3da9d2cfabbecc277ad159a9"), looks := false }, kinds := [], alts := [], laidByText := true, laidKinds := [.data, .data], laidTests := true, laidLooks := .later }
def FnExactEarOrderUptoCardSaid : Prop := Claim7.holds Tryd.pinned (.plain (OpenSpec.upto fnExactEarOrderSpec)) fnExactEarOrderUptoCard

/-- THE SECOND FORM's CARD OF 'laws.FnExactColourUneven'. -/
def fnExactColourUnevenUptoCard : Claim7 := { stood := { row := fnExactColourUnevenUptoRow, standIns := [], harness := (true, "41e536b5bfc4c2a01d37254a4737b9e954d9057a3da9d2cfabbecc277ad159a9"), looks := false }, kinds := [], alts := [], laidByText := true, laidKinds := [.data, .data], laidTests := true, laidLooks := .later }
def FnExactColourUnevenUptoCardSaid : Prop := Claim7.holds Tryd.pinned (.plain (OpenSpec.upto fnExactColourUnevenSpec)) fnExactColourUnevenUptoCard
end Rows
end Go.Proofs.YtacglafoahmcnaaDoor
