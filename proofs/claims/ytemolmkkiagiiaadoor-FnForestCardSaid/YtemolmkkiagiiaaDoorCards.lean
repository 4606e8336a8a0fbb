/-
  DERIVED. GIVEN WITH THE SEED: THE CARDS: each row of YtemolmkkiagiiaaDoorRows.lean that lists a variable, with what it lists TIED to the program's text (the seventh form; the later family's looks); each row that meets fmt, with fmt's text TOLD by the authors' own Lean function (tested against real Go, not proved from fmt's source: count such statements apart). THE CARD IS WHAT COUNTS. Prove the row's statement (the work); the ties are given (YtemolmkkiagiiaaDoorTie.lean); close each card by the builder's one call (the guide's Derived/Test/ToyasCard.lean, 'card_holds'). Laid BY PROGRAM, IN A SANDBOX (cutbox-door.mjs). By AI agents, Wed Nov 11 2026. No macro, syntax, notation, axiom, sorry.
-/
import Derived.Test.YtemolmkkiagiiaaDoorRows
import GoSem.ClaimSeven
namespace Go.Proofs.YtemolmkkiagiiaaDoor
namespace Rows

/-- THE TIED CARD OF 'laws.FnReduce'. -/
def fnReduceCard : Claim7 := { stood := { row := fnReduceRow, standIns := [], harness := (true, "4975b97736f39c62b3ac43e69d75895c5624d08b9b246f2e2e275905c330d5b6"), looks := false }, kinds := [], alts := [], laidByText := true, laidKinds := [.data, .data], laidTests := true, laidLooks := .later }
def FnReduceCardSaid : Prop := Claim7.holds Tryd.pinned (.plain (OpenSpec.ofChange fnReduceSpec)) fnReduceCard

/-- THE TIED CARD OF 'laws.FnFallsRoads'. -/
def fnFallsRoadsCard : Claim7 := { stood := { row := fnFallsRoadsRow, standIns := [], harness := (true, "4975b97736f39c62b3ac43e69d75895c5624d08b9b246f2e2e275905c330d5b6"), looks := false }, kinds := [], alts := [], laidByText := true, laidKinds := [.data, .data], laidTests := true, laidLooks := .later }
def FnFallsRoadsCardSaid : Prop := Claim7.holds Tryd.pinned (.plain (OpenSpec.ofChange fnFallsRoadsSpec)) fnFallsRoadsCard

/-- THE TIED CARD OF 'laws.FnOrder'. -/
def fnOrderCard : Claim7 := { stood := { row := fnOrderRow, standIns := [], harness := (true, "4975b97736f39c62b3ac43e69d75895c5624d08b9b246f2e2e275905c330d5b6"), looks := false }, kinds := [], alts := [], laidByText := true, laidKinds := [.data, .data], laidTests := true, laidLooks := .later }
def FnOrderCardSaid : Prop := Claim7.holds Tryd.pinned (.plain (OpenSpec.ofChange fnOrderSpec)) fnOrderCard

/-- THE TIED CARD OF 'laws.FnForest'. -/
def fnForestCard : Claim7 := { stood := { row := fnForestRow, standIns := [], harness := (true, "4975b97736f39c62b3ac43e69d75895c5624d08b9b246f2e2e275905c330d5b6"), looks := false }, kinds := [], alts := [], laidByText := true, laidKinds := [.data, .data], laidTests := true, laidLooks := .later }
def FnForestCardSaid : Prop := Claim7.holds Tryd.pinned (.plain (OpenSpec.ofChange fnForestSpec)) fnForestCard

/-- THE TIED CARD OF 'laws.FnForestCount'. -/
def fnForestCountCard : Claim7 := { stood := { row := fnForestCountRow, standIns := [], harness := (true, "4975b97736f39c62b3ac43e69d75895c5624d08b9b246f2e2e275905c330d5b6"), looks := false }, kinds := [], alts := [], laidByText := true, laidKinds := [.data, .data], laidTests := true, laidLooks := .later }
def FnForestCountCardSaid : Prop := Claim7.holds Tryd.pinned (.plain (OpenSpec.ofChange fnForestCountSpec)) fnForestCountCard

/-- THE TIED CARD OF 'laws.FnEarSteps'. -/
def fnEarStepsCard : Claim7 := { stood := { row := fnEarStepsRow, standIns := [], harness := (true, "4975b97736f39c62b3ac43e69d75895c5624d08b9b246f2e2e275905c330d5b6"), looks := false }, kinds := [], alts := [], laidByText := true, laidKinds := [.data, .data], laidTests := true, laidLooks := .later }
def FnEarStepsCardSaid : Prop := Claim7.holds Tryd.pinned (.plain (OpenSpec.ofChange fnEarStepsSpec)) fnEarStepsCard

/-- THE SECOND FORM's CARD OF 'laws.FnReduce'. -/
def fnReduceUptoCard : Claim7 := { stood := { row := fnReduceUptoRow, standIns := [], harness := (true, "4975b97736f39c62b3ac43e69d75895c5624d08b9b246f2e2e275905c330d5b6"), looks := false }, kinds := [], alts := [], laidByText := true, laidKinds := [.data, .data], laidTests := true, laidLooks := .later }
def FnReduceUptoCardSaid : Prop := Claim7.holds Tryd.pinned (.plain (OpenSpec.upto fnReduceSpec)) fnReduceUptoCard

/-- THE SECOND FORM's CARD OF 'laws.FnFallsRoads'. -/
def fnFallsRoadsUptoCard : Claim7 := { stood := { row := fnFallsRoadsUptoRow, standIns := [], harness := (true, "4975b97736f39c62b3ac43e69d75895c5624d08b9b246f2e2e275905c330d5b6"), looks := false }, kinds := [], alts := [], laidByText := true, laidKinds := [.data, .data], laidTests := true, laidLooks := .later }
def FnFallsRoadsUptoCardSaid : Prop := Claim7.holds Tryd.pinned (.plain (OpenSpec.upto fnFallsRoadsSpec)) fnFallsRoadsUptoCard

/-- THE SECOND FORM's CARD OF 'laws.FnOrder'. -/
def fnOrderUptoCard : Claim7 := { stood := { row := fnOrderUptoRow, standIns := [], harness := (true, "4975b97736f39c62b3ac43e69d75895c5624d08b9b246f2e2e275905c330d5b6"), looks := false }, kinds := [], alts := [], laidByText := true, laidKinds := [.data, .data], laidTests := true, laidLooks := .later }
def FnOrderUptoCardSaid : Prop := Claim7.holds Tryd.pinned (.plain (OpenSpec.upto fnOrderSpec)) fnOrderUptoCard

/-- THE SECOND FORM's CARD OF 'laws.FnForest'. -/
def fnForestUptoCard : Claim7 := { stood := { row := fnForestUptoRow, standIns := [], harness := (true, "4975b97736f39c62b3ac43e69d75895c5624d08b9b246f2e2e275905c330d5b6"), looks := false }, kinds := [], alts := [], laidByText := true, laidKinds := [.data, .data], laidTests := true, laidLooks := .later }
def FnForestUptoCardSaid : Prop := Claim7.holds Tryd.pinned (.plain (OpenSpec.upto fnForestSpec)) fnForestUptoCard

/-- THE SECOND FORM's CARD OF 'laws.FnForestCount'. -/
def fnForestCountUptoCard : Claim7 := { stood := { row := fnForestCountUptoRow, standIns := [], harness := (true, "4975b97736f39c62b3ac43e69d75895c5624d08b9b246f2e2e275905c330d5b6"), looks := false }, kinds := [], alts := [], laidByText := true, laidKinds := [.data, .data], laidTests := true, laidLooks := .later }
def FnForestCountUptoCardSaid : Prop := Claim7.holds Tryd.pinned (.plain (OpenSpec.upto fnForestCountSpec)) fnForestCountUptoCard

/-- THE SECOND FORM's CARD OF 'laws.FnEarSteps'. -/
def fnEarStepsUptoCard : Claim7 := { stood := { row := fnEarStepsUptoRow, standIns := [], harness := (true, "4975b97736f39c62b3ac43e69d75895c5624d08b9b246f2e2e275905c330d5b6"), looks := false }, kinds := [], alts := [], laidByText := true, laidKinds := [.data, .data], laidTests := true, laidLooks := .later }
def FnEarStepsUptoCardSaid : Prop := Claim7.holds Tryd.pinned (.plain (OpenSpec.upto fnEarStepsSpec)) fnEarStepsUptoCard
end Rows
end Go.Proofs.YtemolmkkiagiiaaDoor
