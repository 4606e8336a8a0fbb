/-
  DERIVED. GIVEN WITH THE SEED: THE CARDS: each row of YtfhhfilkabjhaaaDoorRows.lean that lists a variable, with what it lists TIED to the program's text (the seventh form; the later family's looks); each row that meets fmt, with fmt's text TOLD by the authors' own Lean function (tested against real Go, not proved from fmt's source: count such statements apart). THE CARD IS WHAT COUNTS. Prove the row's statement (the work); the ties are given (YtfhhfilkabjhaaaDoorTie.lean); close each card by the builder's one call (the guide's Derived/Test/ToyasCard.lean, 'card_holds'). Laid BY PROGRAM, IN A SANDBOX (cutbox-door.mjs). By AI agents, Wed Nov 11 2026. No macro, syntax, notation, axiom, sorry.
-/
import Derived.Test.YtfhhfilkabjhaaaDoorRows
import GoSem.ClaimSeven
namespace Go.Proofs.YtfhhfilkabjhaaaDoor
namespace Rows

/-- THE TIED CARD OF 'laws.FnExactEarByPairs'. -/
def fnExactEarByPairsCard : Claim7 := { stood := { row := fnExactEarByPairsRow, standIns := [], harness := (true, "c24c2f71f94dc8761a69b5210f127258aa14a2ad59810928953170689597f92f"), looks := false }, kinds := [], alts := [], laidByText := true, laidKinds := [.data, .data], laidTests := true, laidLooks := .later }
def FnExactEarByPairsCardSaid : Prop := Claim7.holds Tryd.pinned (.plain (OpenSpec.ofChange fnExactEarByPairsSpec)) fnExactEarByPairsCard

/-- THE TIED CARD OF 'laws.FnExactEarOrder'. -/
def fnExactEarOrderCard : Claim7 := { stood := { row := fnExactEarOrderRow, standIns := [], harness := (true, "c24c2f71f94dc8761a69b5210f127258aa14a2ad59810928953170689597f92f"), looks := false }, kinds := [], alts := [], laidByText := true, laidKinds := [.data, .data], laidTests := true, laidLooks := .later }
def FnExactEarOrderCardSaid : Prop := Claim7.holds Tryd.pinned (.plain (OpenSpec.ofChange fnExactEarOrderSpec)) fnExactEarOrderCard

/-- THE TIED CARD OF 'laws.FnExactColourMany'. -/
def fnExactColourManyCard : Claim7 := { stood := { row := fnExactColourManyRow, standIns := [], harness := (true, "c24c2f71f94dc8761a69b5210f127258aa14a2ad59810928953170689597f92f"), looks := false }, kinds := [], alts := [], laidByText := true, laidKinds := [.data, .data], laidTests := true, laidLooks := .later }
def FnExactColourManyCardSaid : Prop := Claim7.holds Tryd.pinned (.plain (OpenSpec.ofChange fnExactColourManySpec)) fnExactColourManyCard

/-- THE TIED CARD OF 'laws.FnExactColourFirst'. -/
def fnExactColourFirstCard : Claim7 := { stood := { row := fnExactColourFirstRow, standIns := [], harness := (true, "c24c2f71f94dc8761a69b5210f127258aa14a2ad59810928953170689597f92f"), looks := false }, kinds := [], alts := [], laidByText := true, laidKinds := [.data, .data], laidTests := true, laidLooks := .later }
def FnExactColourFirstCardSaid : Prop := Claim7.holds Tryd.pinned (.plain (OpenSpec.ofChange fnExactColourFirstSpec)) fnExactColourFirstCard

/-- THE TIED CARD OF 'laws.FnExactColourLeast'. -/
def fnExactColourLeastCard : Claim7 := { stood := { row := fnExactColourLeastRow, standIns := [], harness := (true, "c24c2f71f94dc8761a69b5210f127258aa14a2ad59810928953170689597f92f"), looks := false }, kinds := [], alts := [], laidByText := true, laidKinds := [.data, .data], laidTests := true, laidLooks := .later }
def FnExactColourLeastCardSaid : Prop := Claim7.holds Tryd.pinned (.plain (OpenSpec.ofChange fnExactColourLeastSpec)) fnExactColourLeastCard

/-- THE TIED CARD OF 'laws.FnExactColourUneven'. -/
def fnExactColourUnevenCard : Claim7 := { stood := { row := fnExactColourUnevenRow, standIns := [], harness := (true, "c24c2f71f94dc8761a69b5210f127258aa14a2ad59810928953170689597f92f"), looks := false }, kinds := [], alts := [], laidByText := true, laidKinds := [.data, .data], laidTests := true, laidLooks := .later }
def FnExactColourUnevenCardSaid : Prop := Claim7.holds Tryd.pinned (.plain (OpenSpec.ofChange fnExactColourUnevenSpec)) fnExactColourUnevenCard

/-- THE TIED CARD OF 'laws.FnExactColourProper'. -/
def fnExactColourProperCard : Claim7 := { stood := { row := fnExactColourProperRow, standIns := [], harness := (true, "c24c2f71f94dc8761a69b5210f127258aa14a2ad59810928953170689597f92f"), looks := false }, kinds := [], alts := [], laidByText := true, laidKinds := [.data, .data], laidTests := true, laidLooks := .later }
def FnExactColourProperCardSaid : Prop := Claim7.holds Tryd.pinned (.plain (OpenSpec.ofChange fnExactColourProperSpec)) fnExactColourProperCard

/-- THE SECOND FORM's CARD OF 'laws.FnExactEarByPairs'. -/
def fnExactEarByPairsUptoCard : Claim7 := { stood := { row := fnExactEarByPairsUptoRow, standIns := [], harness := (true, "c24c2f71f94dc8761a69b5210f127258aa14a2ad59810928953170689597f92f"), looks := false }, kinds := [], alts := [], laidByText := true, laidKinds := [.data, .data], laidTests := true, laidLooks := .later }
def FnExactEarByPairsUptoCardSaid : Prop := Claim7.holds Tryd.pinned (.plain (OpenSpec.upto fnExactEarByPairsSpec)) fnExactEarByPairsUptoCard

/-- THE SECOND FORM's CARD OF 'laws.FnExactEarOrder'. -/
def fnExactEarOrderUptoCard : Claim7 := { stood := { row := fnExactEarOrderUptoRow, standIns := [], harness := (true, "c24c2f71f94dc8761a69b5210f127258aa14a2ad59810928953170689597f92f"), looks := false }, kinds := [], alts := [], laidByText := true, laidKinds := [.data, .data], laidTests := true, laidLooks := .later }
def FnExactEarOrderUptoCardSaid : Prop := Claim7.holds Tryd.pinned (.plain (OpenSpec.upto fnExactEarOrderSpec)) fnExactEarOrderUptoCard

/-- THE SECOND FORM's CARD OF 'laws.FnExactColourMany'. -/
def fnExactColourManyUptoCard : Claim7 := { stood := { row := fnExactColourManyUptoRow, standIns := [], harness := (true, "c24c2f71f94dc8761a69b5210f127258aa14a2ad59810928953170689597f92f"), looks := false }, kinds := [], alts := [], laidByText := true, laidKinds := [.data, .data], laidTests := true, laidLooks := .later }
def FnExactColourManyUptoCardSaid : Prop := Claim7.holds Tryd.pinned (.plain (OpenSpec.upto fnExactColourManySpec)) fnExactColourManyUptoCard

/-- THE SECOND FORM's CARD OF 'laws.FnExactColourFirst'. -/
def fnExactColourFirstUptoCard : Claim7 := { stood := { row := fnExactColourFirstUptoRow, standIns := [], harness := (true, "c24c2f71f94dc8761a69b5210f127258aa14a2ad59810928953170689597f92f"), looks := false }, kinds := [], alts := [], laidByText := true, laidKinds := [.data, .data], laidTests := true, laidLooks := .later }
def FnExactColourFirstUptoCardSaid : Prop := Claim7.holds Tryd.pinned (.plain (OpenSpec.upto fnExactColourFirstSpec)) fnExactColourFirstUptoCard

/-- THE SECOND FORM's CARD OF 'laws.FnExactColourLeast'. -/
def fnExactColourLeastUptoCard : Claim7 := { stood := { row := fnExactColourLeastUptoRow, standIns := [], harness := (true, "c24c2f71f94dc8761a69b5210f127258aa14a2ad59810928953170689597f92f"), looks := false }, kinds := [], alts := [], laidByText := true, laidKinds := [.data, .data], laidTests := true, laidLooks := .later }
def FnExactColourLeastUptoCardSaid : Prop := Claim7.holds Tryd.pinned (.plain (OpenSpec.upto fnExactColourLeastSpec)) fnExactColourLeastUptoCard

/-- THE SECOND FORM's CARD OF 'laws.FnExactColourUneven'. -/
def fnExactColourUnevenUptoCard : Claim7 := { stood := { row := fnExactColourUnevenUptoRow, standIns := [], harness := (true, "c24c2f71f94dc8761a69b5210f127258aa14a2ad59810928953170689597f92f"), looks := false }, kinds := [], alts := [], laidByText := true, laidKinds := [.data, .data], laidTests := true, laidLooks := .later }
def FnExactColourUnevenUptoCardSaid : Prop := Claim7.holds Tryd.pinned (.plain (OpenSpec.upto fnExactColourUnevenSpec)) fnExactColourUnevenUptoCard

/-- THE SECOND FORM's CARD OF 'laws.FnExactColourProper'. -/
def fnExactColourProperUptoCard : Claim7 := { stood := { row := fnExactColourProperUptoRow, standIns := [], harness := (true, "c24c2f71f94dc8761a69b5210f127258aa14a2ad59810928953170689597f92f"), looks := false }, kinds := [], alts := [], laidByText := true, laidKinds := [.data, .data], laidTests := true, laidLooks := .later }
def FnExactColourProperUptoCardSaid : Prop := Claim7.holds Tryd.pinned (.plain (OpenSpec.upto fnExactColourProperSpec)) fnExactColourProperUptoCard
end Rows
end Go.Proofs.YtfhhfilkabjhaaaDoor
