/-
  DERIVED. GIVEN WITH THE SEED: THE CARDS: each row of YtidbkegnngfpiaaDoorRows.lean that lists a variable, with what it lists TIED to the program's text (the seventh form; the later family's looks); each row that meets fmt, with fmt's text TOLD by the authors' own Lean function (tested against real Go, not proved from fmt's source: count such statements apart). THE CARD IS WHAT COUNTS. Prove the row's statement (the work); the ties are given (YtidbkegnngfpiaaDoorTie.lean); close each card by the builder's one call (the guide's Derived/Test/ToyasCard.lean, 'card_holds'). Laid BY PROGRAM, IN A SANDBOX (cutbox-door.mjs). By AI agents, Wed Nov 11 2026. No macro, syntax, notation, axiom, sorry.
-/
import Derived.Test.YtidbkegnngfpiaaDoorRows
import GoSem.ClaimSeven
namespace Go.Proofs.YtidbkegnngfpiaaDoor
namespace Rows

/-- THE TIED CARD OF 'laws.FnExactEarReduce'. -/
def fnExactEarReduceCard : Claim7 := { stood := { row := fnExactEarReduceRow, standIns := [], harness := (true, "49a2402bb09d2eb30115fd4d32e55d9c1e24e2c6af5e6429516469ef90b4fa0f"), looks := false }, kinds := [], alts := [], laidByText := true, laidKinds := [.data, .data], laidTests := true, laidLooks := .later }
def FnExactEarReduceCardSaid : Prop := Claim7.holds Tryd.pinned (.plain (OpenSpec.ofChange fnExactEarReduceSpec)) fnExactEarReduceCard

/-- THE TIED CARD OF 'laws.FnExactEarFalls'. -/
def fnExactEarFallsCard : Claim7 := { stood := { row := fnExactEarFallsRow, standIns := [], harness := (true, "49a2402bb09d2eb30115fd4d32e55d9c1e24e2c6af5e6429516469ef90b4fa0f"), looks := false }, kinds := [], alts := [], laidByText := true, laidKinds := [.data, .data], laidTests := true, laidLooks := .later }
def FnExactEarFallsCardSaid : Prop := Claim7.holds Tryd.pinned (.plain (OpenSpec.ofChange fnExactEarFallsSpec)) fnExactEarFallsCard

/-- THE TIED CARD OF 'laws.FnExactEarSteps'. -/
def fnExactEarStepsCard : Claim7 := { stood := { row := fnExactEarStepsRow, standIns := [], harness := (true, "49a2402bb09d2eb30115fd4d32e55d9c1e24e2c6af5e6429516469ef90b4fa0f"), looks := false }, kinds := [], alts := [], laidByText := true, laidKinds := [.data, .data], laidTests := true, laidLooks := .later }
def FnExactEarStepsCardSaid : Prop := Claim7.holds Tryd.pinned (.plain (OpenSpec.ofChange fnExactEarStepsSpec)) fnExactEarStepsCard

/-- THE TIED CARD OF 'laws.FnExactEarByPairs'. -/
def fnExactEarByPairsCard : Claim7 := { stood := { row := fnExactEarByPairsRow, standIns := [], harness := (true, "49a2402bb09d2eb30115fd4d32e55d9c1e24e2c6af5e6429516469ef90b4fa0f"), looks := false }, kinds := [], alts := [], laidByText := true, laidKinds := [.data, .data], laidTests := true, laidLooks := .later }
def FnExactEarByPairsCardSaid : Prop := Claim7.holds Tryd.pinned (.plain (OpenSpec.ofChange fnExactEarByPairsSpec)) fnExactEarByPairsCard

/-- THE TIED CARD OF 'laws.FnExactEarOrder'. -/
def fnExactEarOrderCard : Claim7 := { stood := { row := fnExactEarOrderRow, standIns := [], harness := (true, "49a2402bb09d2eb30115fd4d32e55d9c1e24e2c6af5e6429516469ef90b4fa0f"), looks := false }, kinds := [], alts := [], laidByText := true, laidKinds := [.data, .data], laidTests := true, laidLooks := .later }
def FnExactEarOrderCardSaid : Prop := Claim7.holds Tryd.pinned (.plain (OpenSpec.ofChange fnExactEarOrderSpec)) fnExactEarOrderCard

/-- THE TIED CARD OF 'laws.FnExactEarForest'. -/
def fnExactEarForestCard : Claim7 := { stood := { row := fnExactEarForestRow, standIns := [], harness := (true, "49a2402bb09d2eb30115fd4d32e55d9c1e24e2c6af5e6429516469ef90b4fa0f"), looks := false }, kinds := [], alts := [], laidByText := true, laidKinds := [.data, .data], laidTests := true, laidLooks := .later }
def FnExactEarForestCardSaid : Prop := Claim7.holds Tryd.pinned (.plain (OpenSpec.ofChange fnExactEarForestSpec)) fnExactEarForestCard

/-- THE SECOND FORM's CARD OF 'laws.FnExactEarReduce'. -/
def fnExactEarReduceUptoCard : Claim7 := { stood := { row := fnExactEarReduceUptoRow, standIns := [], harness := (true, "49a2402bb09d2eb30115fd4d32e55d9c1e24e2c6af5e6429516469ef90b4fa0f"), looks := false }, kinds := [], alts := [], laidByText := true, laidKinds := [.data, .data], laidTests := true, laidLooks := .later }
def FnExactEarReduceUptoCardSaid : Prop := Claim7.holds Tryd.pinned (.plain (OpenSpec.upto fnExactEarReduceSpec)) fnExactEarReduceUptoCard

/-- THE SECOND FORM's CARD OF 'laws.FnExactEarFalls'. -/
def fnExactEarFallsUptoCard : Claim7 := { stood := { row := fnExactEarFallsUptoRow, standIns := [], harness := (true, "49a2402bb09d2eb30115fd4d32e55d9c1e24e2c6af5e6429516469ef90b4fa0f"), looks := false }, kinds := [], alts := [], laidByText := true, laidKinds := [.data, .data], laidTests := true, laidLooks := .later }
def FnExactEarFallsUptoCardSaid : Prop := Claim7.holds Tryd.pinned (.plain (OpenSpec.upto fnExactEarFallsSpec)) fnExactEarFallsUptoCard

/-- THE SECOND FORM's CARD OF 'laws.FnExactEarSteps'. -/
def fnExactEarStepsUptoCard : Claim7 := { stood := { row := fnExactEarStepsUptoRow, standIns := [], harness := (true, "49a2402bb09d2eb30115fd4d32e55d9c1e24e2c6af5e6429516469ef90b4fa0f"), looks := false }, kinds := [], alts := [], laidByText := true, laidKinds := [.data, .data], laidTests := true, laidLooks := .later }
def FnExactEarStepsUptoCardSaid : Prop := Claim7.holds Tryd.pinned (.plain (OpenSpec.upto fnExactEarStepsSpec)) fnExactEarStepsUptoCard

/-- THE SECOND FORM's CARD OF 'laws.FnExactEarByPairs'. -/
def fnExactEarByPairsUptoCard : Claim7 := { stood := { row := fnExactEarByPairsUptoRow, standIns := [], harness := (true, "49a2402bb09d2eb30115fd4d32e55d9c1e24e2c6af5e6429516469ef90b4fa0f"), looks := false }, kinds := [], alts := [], laidByText := true, laidKinds := [.data, .data], laidTests := true, laidLooks := .later }
def FnExactEarByPairsUptoCardSaid : Prop := Claim7.holds Tryd.pinned (.plain (OpenSpec.upto fnExactEarByPairsSpec)) fnExactEarByPairsUptoCard

/-- THE SECOND FORM's CARD OF 'laws.FnExactEarOrder'. -/
def fnExactEarOrderUptoCard : Claim7 := { stood := { row := fnExactEarOrderUptoRow, standIns := [], harness := (true, "49a2402bb09d2eb30115fd4d32e55d9c1e24e2c6af5e6429516469ef90b4fa0f"), looks := false }, kinds := [], alts := [], laidByText := true, laidKinds := [.data, .data], laidTests := true, laidLooks := .later }
def FnExactEarOrderUptoCardSaid : Prop := Claim7.holds Tryd.pinned (.plain (OpenSpec.upto fnExactEarOrderSpec)) fnExactEarOrderUptoCard

/-- THE SECOND FORM's CARD OF 'laws.FnExactEarForest'. -/
def fnExactEarForestUptoCard : Claim7 := { stood := { row := fnExactEarForestUptoRow, standIns := [], harness := (true, "49a2402bb09d2eb30115fd4d32e55d9c1e24e2c6af5e6429516469ef90b4fa0f"), looks := false }, kinds := [], alts := [], laidByText := true, laidKinds := [.data, .data], laidTests := true, laidLooks := .later }
def FnExactEarForestUptoCardSaid : Prop := Claim7.holds Tryd.pinned (.plain (OpenSpec.upto fnExactEarForestSpec)) fnExactEarForestUptoCard
end Rows
end Go.Proofs.YtidbkegnngfpiaaDoor
