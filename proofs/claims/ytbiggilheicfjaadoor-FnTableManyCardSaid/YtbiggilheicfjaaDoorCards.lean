/-
  DERIVED. GIVEN WITH THE SEED: THE CARDS: each row of YtbiggilheicfjaaDoorRows.lean that lists a variable, with what it lists TIED to the program's text (the seventh form; the later family's looks); each row that meets fmt, with fmt's text TOLD by the authors' own Lean function (tested against real Go, not proved from fmt's source: count such statements apart). THE CARD IS WHAT COUNTS. Prove the row's statement (the work); the ties are given (YtbiggilheicfjaaDoorTie.lean); close each card by the builder's one call (the guide's Derived/Test/ToyasCard.lean, 'card_holds'). Laid BY PROGRAM, IN A SANDBOX (cutbox-door.mjs). By AI agents, Wed Nov 11 2026. No macro, syntax, notation, axiom, sorry.
-/
import Derived.Test.YtbiggilheicfjaaDoorRows
import GoSem.ClaimSeven
namespace Go.Proofs.YtbiggilheicfjaaDoor
namespace Rows

/-- THE TIED CARD OF 'laws.FnTable'. -/
def fnTableCard : Claim7 := { stood := { row := fnTableRow, standIns := [], harness := (true, "5cbb7dad93820490b0de35cb492ea5e4f2f75d71170f17569b6d1d66608e87a2"), looks := false }, kinds := [], alts := [], laidByText := true, laidKinds := [.data, .data], laidTests := true, laidLooks := .later }
def FnTableCardSaid : Prop := Claim7.holds Tryd.pinned (.plain (OpenSpec.ofChange fnTableSpec)) fnTableCard

/-- THE TIED CARD OF 'laws.FnTableFirst'. -/
def fnTableFirstCard : Claim7 := { stood := { row := fnTableFirstRow, standIns := [], harness := (true, "5cbb7dad93820490b0de35cb492ea5e4f2f75d71170f17569b6d1d66608e87a2"), looks := false }, kinds := [], alts := [], laidByText := true, laidKinds := [.data, .data], laidTests := true, laidLooks := .later }
def FnTableFirstCardSaid : Prop := Claim7.holds Tryd.pinned (.plain (OpenSpec.ofChange fnTableFirstSpec)) fnTableFirstCard

/-- THE TIED CARD OF 'laws.FnTableMany'. -/
def fnTableManyCard : Claim7 := { stood := { row := fnTableManyRow, standIns := [], harness := (true, "5cbb7dad93820490b0de35cb492ea5e4f2f75d71170f17569b6d1d66608e87a2"), looks := false }, kinds := [], alts := [], laidByText := true, laidKinds := [.data, .data], laidTests := true, laidLooks := .later }
def FnTableManyCardSaid : Prop := Claim7.holds Tryd.pinned (.plain (OpenSpec.ofChange fnTableManySpec)) fnTableManyCard

/-- THE TIED CARD OF 'laws.FnSteps'. -/
def fnStepsCard : Claim7 := { stood := { row := fnStepsRow, standIns := [], harness := (true, "5cbb7dad93820490b0de35cb492ea5e4f2f75d71170f17569b6d1d66608e87a2"), looks := false }, kinds := [], alts := [], laidByText := true, laidKinds := [.data, .data], laidTests := true, laidLooks := .later }
def FnStepsCardSaid : Prop := Claim7.holds Tryd.pinned (.plain (OpenSpec.ofChange fnStepsSpec)) fnStepsCard

/-- THE TIED CARD OF 'laws.FnSwitches'. -/
def fnSwitchesCard : Claim7 := { stood := { row := fnSwitchesRow, standIns := [], harness := (true, "5cbb7dad93820490b0de35cb492ea5e4f2f75d71170f17569b6d1d66608e87a2"), looks := false }, kinds := [], alts := [], laidByText := true, laidKinds := [.data, .data], laidTests := true, laidLooks := .later }
def FnSwitchesCardSaid : Prop := Claim7.holds Tryd.pinned (.plain (OpenSpec.ofChange fnSwitchesSpec)) fnSwitchesCard

/-- THE TIED CARD OF 'laws.FnFar'. -/
def fnFarCard : Claim7 := { stood := { row := fnFarRow, standIns := [], harness := (true, "5cbb7dad93820490b0de35cb492ea5e4f2f75d71170f17569b6d1d66608e87a2"), looks := false }, kinds := [], alts := [], laidByText := true, laidKinds := [.data, .data], laidTests := true, laidLooks := .later }
def FnFarCardSaid : Prop := Claim7.holds Tryd.pinned (.plain (OpenSpec.ofChange fnFarSpec)) fnFarCard

/-- THE TIED CARD OF 'laws.FnExactTableMany'. -/
def fnExactTableManyCard : Claim7 := { stood := { row := fnExactTableManyRow, standIns := [], harness := (true, "5cbb7dad93820490b0de35cb492ea5e4f2f75d71170f17569b6d1d66608e87a2"), looks := false }, kinds := [], alts := [], laidByText := true, laidKinds := [.data, .data], laidTests := true, laidLooks := .later }
def FnExactTableManyCardSaid : Prop := Claim7.holds Tryd.pinned (.plain (OpenSpec.ofChange fnExactTableManySpec)) fnExactTableManyCard

/-- THE TIED CARD OF 'laws.FnExactTableFirst'. -/
def fnExactTableFirstCard : Claim7 := { stood := { row := fnExactTableFirstRow, standIns := [], harness := (true, "5cbb7dad93820490b0de35cb492ea5e4f2f75d71170f17569b6d1d66608e87a2"), looks := false }, kinds := [], alts := [], laidByText := true, laidKinds := [.data, .data], laidTests := true, laidLooks := .later }
def FnExactTableFirstCardSaid : Prop := Claim7.holds Tryd.pinned (.plain (OpenSpec.ofChange fnExactTableFirstSpec)) fnExactTableFirstCard

/-- THE TIED CARD OF 'laws.FnExactTableSwitches'. -/
def fnExactTableSwitchesCard : Claim7 := { stood := { row := fnExactTableSwitchesRow, standIns := [], harness := (true, "5cbb7dad93820490b0de35cb492ea5e4f2f75d71170f17569b6d1d66608e87a2"), looks := false }, kinds := [], alts := [], laidByText := true, laidKinds := [.data, .data], laidTests := true, laidLooks := .later }
def FnExactTableSwitchesCardSaid : Prop := Claim7.holds Tryd.pinned (.plain (OpenSpec.ofChange fnExactTableSwitchesSpec)) fnExactTableSwitchesCard

/-- THE TIED CARD OF 'laws.FnExactTableFar'. -/
def fnExactTableFarCard : Claim7 := { stood := { row := fnExactTableFarRow, standIns := [], harness := (true, "5cbb7dad93820490b0de35cb492ea5e4f2f75d71170f17569b6d1d66608e87a2"), looks := false }, kinds := [], alts := [], laidByText := true, laidKinds := [.data, .data], laidTests := true, laidLooks := .later }
def FnExactTableFarCardSaid : Prop := Claim7.holds Tryd.pinned (.plain (OpenSpec.ofChange fnExactTableFarSpec)) fnExactTableFarCard

/-- THE SECOND FORM's CARD OF 'laws.FnTable'. -/
def fnTableUptoCard : Claim7 := { stood := { row := fnTableUptoRow, standIns := [], harness := (true, "5cbb7dad93820490b0de35cb492ea5e4f2f75d71170f17569b6d1d66608e87a2"), looks := false }, kinds := [], alts := [], laidByText := true, laidKinds := [.data, .data], laidTests := true, laidLooks := .later }
def FnTableUptoCardSaid : Prop := Claim7.holds Tryd.pinned (.plain (OpenSpec.upto fnTableSpec)) fnTableUptoCard

/-- THE SECOND FORM's CARD OF 'laws.FnTableFirst'. -/
def fnTableFirstUptoCard : Claim7 := { stood := { row := fnTableFirstUptoRow, standIns := [], harness := (true, "5cbb7dad93820490b0de35cb492ea5e4f2f75d71170f17569b6d1d66608e87a2"), looks := false }, kinds := [], alts := [], laidByText := true, laidKinds := [.data, .data], laidTests := true, laidLooks := .later }
def FnTableFirstUptoCardSaid : Prop := Claim7.holds Tryd.pinned (.plain (OpenSpec.upto fnTableFirstSpec)) fnTableFirstUptoCard

/-- THE SECOND FORM's CARD OF 'laws.FnTableMany'. -/
def fnTableManyUptoCard : Claim7 := { stood := { row := fnTableManyUptoRow, standIns := [], harness := (true, "5cbb7dad93820490b0de35cb492ea5e4f2f75d71170f17569b6d1d66608e87a2"), looks := false }, kinds := [], alts := [], laidByText := true, laidKinds := [.data, .data], laidTests := true, laidLooks := .later }
def FnTableManyUptoCardSaid : Prop := Claim7.holds Tryd.pinned (.plain (OpenSpec.upto fnTableManySpec)) fnTableManyUptoCard

/-- THE SECOND FORM's CARD OF 'laws.FnSteps'. -/
def fnStepsUptoCard : Claim7 := { stood := { row := fnStepsUptoRow, standIns := [], harness := (true, "5cbb7dad93820490b0de35cb492ea5e4f2f75d71170f17569b6d1d66608e87a2"), looks := false }, kinds := [], alts := [], laidByText := true, laidKinds := [.data, .data], laidTests := true, laidLooks := .later }
def FnStepsUptoCardSaid : Prop := Claim7.holds Tryd.pinned (.plain (OpenSpec.upto fnStepsSpec)) fnStepsUptoCard

/-- THE SECOND FORM's CARD OF 'laws.FnSwitches'. -/
def fnSwitchesUptoCard : Claim7 := { stood := { row := fnSwitchesUptoRow, standIns := [], harness := (true, "5cbb7dad93820490b0de35cb492ea5e4f2f75d71170f17569b6d1d66608e87a2"), looks := false }, kinds := [], alts := [], laidByText := true, laidKinds := [.data, .data], laidTests := true, laidLooks := .later }
def FnSwitchesUptoCardSaid : Prop := Claim7.holds Tryd.pinned (.plain (OpenSpec.upto fnSwitchesSpec)) fnSwitchesUptoCard

/-- THE SECOND FORM's CARD OF 'laws.FnFar'. -/
def fnFarUptoCard : Claim7 := { stood := { row := fnFarUptoRow, standIns := [], harness := (true, "5cbb7dad93820490b0de35cb492ea5e4f2f75d71170f17569b6d1d66608e87a2"), looks := false }, kinds := [], alts := [], laidByText := true, laidKinds := [.data, .data], laidTests := true, laidLooks := .later }
def FnFarUptoCardSaid : Prop := Claim7.holds Tryd.pinned (.plain (OpenSpec.upto fnFarSpec)) fnFarUptoCard

/-- THE SECOND FORM's CARD OF 'laws.FnExactTableMany'. -/
def fnExactTableManyUptoCard : Claim7 := { stood := { row := fnExactTableManyUptoRow, standIns := [], harness := (true, "5cbb7dad93820490b0de35cb492ea5e4f2f75d71170f17569b6d1d66608e87a2"), looks := false }, kinds := [], alts := [], laidByText := true, laidKinds := [.data, .data], laidTests := true, laidLooks := .later }
def FnExactTableManyUptoCardSaid : Prop := Claim7.holds Tryd.pinned (.plain (OpenSpec.upto fnExactTableManySpec)) fnExactTableManyUptoCard

/-- THE SECOND FORM's CARD OF 'laws.FnExactTableFirst'. -/
def fnExactTableFirstUptoCard : Claim7 := { stood := { row := fnExactTableFirstUptoRow, standIns := [], harness := (true, "5cbb7dad93820490b0de35cb492ea5e4f2f75d71170f17569b6d1d66608e87a2"), looks := false }, kinds := [], alts := [], laidByText := true, laidKinds := [.data, .data], laidTests := true, laidLooks := .later }
def FnExactTableFirstUptoCardSaid : Prop := Claim7.holds Tryd.pinned (.plain (OpenSpec.upto fnExactTableFirstSpec)) fnExactTableFirstUptoCard

/-- THE SECOND FORM's CARD OF 'laws.FnExactTableSwitches'. -/
def fnExactTableSwitchesUptoCard : Claim7 := { stood := { row := fnExactTableSwitchesUptoRow, standIns := [], harness := (true, "5cbb7dad93820490b0de35cb492ea5e4f2f75d71170f17569b6d1d66608e87a2"), looks := false }, kinds := [], alts := [], laidByText := true, laidKinds := [.data, .data], laidTests := true, laidLooks := .later }
def FnExactTableSwitchesUptoCardSaid : Prop := Claim7.holds Tryd.pinned (.plain (OpenSpec.upto fnExactTableSwitchesSpec)) fnExactTableSwitchesUptoCard

/-- THE SECOND FORM's CARD OF 'laws.FnExactTableFar'. -/
def fnExactTableFarUptoCard : Claim7 := { stood := { row := fnExactTableFarUptoRow, standIns := [], harness := (true, "5cbb7dad93820490b0de35cb492ea5e4f2f75d71170f17569b6d1d66608e87a2"), looks := false }, kinds := [], alts := [], laidByText := true, laidKinds := [.data, .data], laidTests := true, laidLooks := .later }
def FnExactTableFarUptoCardSaid : Prop := Claim7.holds Tryd.pinned (.plain (OpenSpec.upto fnExactTableFarSpec)) fnExactTableFarUptoCard
end Rows
end Go.Proofs.YtbiggilheicfjaaDoor
