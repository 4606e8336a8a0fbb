/-
  DERIVED. GIVEN WITH THE SEED: THE CARDS: each row of YtlfbpaphjkbcmaaDoorRows.lean that lists a variable, with what it lists TIED to the program's text (the seventh form; the later family's looks); each row that meets fmt, with fmt's text TOLD by the authors' own Lean function (tested against real Go, not proved from fmt's source: count such statements apart). THE CARD IS WHAT COUNTS. Prove the row's statement (the work); the ties are given (YtlfbpaphjkbcmaaDoorTie.lean); close each card by the builder's one call (the guide's Derived/Test/ToyasCard.lean, 'card_holds'). Laid BY PROGRAM, IN A SANDBOX (cutbox-door.mjs). By AI agents, Wed Nov 11 2026. No macro, syntax, notation, axiom, sorry.
-/
import Derived.Test.YtlfbpaphjkbcmaaDoorRows
import GoSem.ClaimSeven
namespace Go.Proofs.YtlfbpaphjkbcmaaDoor
namespace Rows

/-- THE TIED CARD OF 'laws.FnExactRankEven'. -/
def fnExactRankEvenCard : Claim7 := { stood := { row := fnExactRankEvenRow, standIns := [], harness := (true, "64f7cf52c518f60d4751804cec6a2aba05fc0699e5289e57309a1aa57e619108"), looks := false }, kinds := [], alts := [], laidByText := true, laidKinds := [.data, .data], laidTests := true, laidLooks := .later }
def FnExactRankEvenCardSaid : Prop := Claim7.holds Tryd.pinned (.plain (OpenSpec.ofChange fnExactRankEvenSpec)) fnExactRankEvenCard

/-- THE TIED CARD OF 'laws.FnExactRankWhole'. -/
def fnExactRankWholeCard : Claim7 := { stood := { row := fnExactRankWholeRow, standIns := [], harness := (true, "64f7cf52c518f60d4751804cec6a2aba05fc0699e5289e57309a1aa57e619108"), looks := false }, kinds := [], alts := [], laidByText := true, laidKinds := [.data, .data], laidTests := true, laidLooks := .later }
def FnExactRankWholeCardSaid : Prop := Claim7.holds Tryd.pinned (.plain (OpenSpec.ofChange fnExactRankWholeSpec)) fnExactRankWholeCard

/-- THE TIED CARD OF 'laws.FnExactRankSum'. -/
def fnExactRankSumCard : Claim7 := { stood := { row := fnExactRankSumRow, standIns := [], harness := (true, "64f7cf52c518f60d4751804cec6a2aba05fc0699e5289e57309a1aa57e619108"), looks := false }, kinds := [], alts := [], laidByText := true, laidKinds := [.data, .data], laidTests := true, laidLooks := .later }
def FnExactRankSumCardSaid : Prop := Claim7.holds Tryd.pinned (.plain (OpenSpec.ofChange fnExactRankSumSpec)) fnExactRankSumCard

/-- THE TIED CARD OF 'laws.FnExactRankSums'. -/
def fnExactRankSumsCard : Claim7 := { stood := { row := fnExactRankSumsRow, standIns := [], harness := (true, "64f7cf52c518f60d4751804cec6a2aba05fc0699e5289e57309a1aa57e619108"), looks := false }, kinds := [], alts := [], laidByText := true, laidKinds := [.data, .data], laidTests := true, laidLooks := .later }
def FnExactRankSumsCardSaid : Prop := Claim7.holds Tryd.pinned (.plain (OpenSpec.ofChange fnExactRankSumsSpec)) fnExactRankSumsCard

/-- THE SECOND FORM's CARD OF 'laws.FnExactRankEven'. -/
def fnExactRankEvenUptoCard : Claim7 := { stood := { row := fnExactRankEvenUptoRow, standIns := [], harness := (true, "64f7cf52c518f60d4751804cec6a2aba05fc0699e5289e57309a1aa57e619108"), looks := false }, kinds := [], alts := [], laidByText := true, laidKinds := [.data, .data], laidTests := true, laidLooks := .later }
def FnExactRankEvenUptoCardSaid : Prop := Claim7.holds Tryd.pinned (.plain (OpenSpec.upto fnExactRankEvenSpec)) fnExactRankEvenUptoCard

/-- THE SECOND FORM's CARD OF 'laws.FnExactRankWhole'. -/
def fnExactRankWholeUptoCard : Claim7 := { stood := { row := fnExactRankWholeUptoRow, standIns := [], harness := (true, "64f7cf52c518f60d4751804cec6a2aba05fc0699e5289e57309a1aa57e619108"), looks := false }, kinds := [], alts := [], laidByText := true, laidKinds := [.data, .data], laidTests := true, laidLooks := .later }
def FnExactRankWholeUptoCardSaid : Prop := Claim7.holds Tryd.pinned (.plain (OpenSpec.upto fnExactRankWholeSpec)) fnExactRankWholeUptoCard

/-- THE SECOND FORM's CARD OF 'laws.FnExactRankSum'. -/
def fnExactRankSumUptoCard : Claim7 := { stood := { row := fnExactRankSumUptoRow, standIns := [], harness := (true, "64f7cf52c518f60d4751804cec6a2aba05fc0699e5289e57309a1aa57e619108"), looks := false }, kinds := [], alts := [], laidByText := true, laidKinds := [.data, .data], laidTests := true, laidLooks := .later }
def FnExactRankSumUptoCardSaid : Prop := Claim7.holds Tryd.pinned (.plain (OpenSpec.upto fnExactRankSumSpec)) fnExactRankSumUptoCard

/-- THE SECOND FORM's CARD OF 'laws.FnExactRankSums'. -/
def fnExactRankSumsUptoCard : Claim7 := { stood := { row := fnExactRankSumsUptoRow, standIns := [], harness := (true, "64f7cf52c518f60d4751804cec6a2aba05fc0699e5289e57309a1aa57e619108"), looks := false }, kinds := [], alts := [], laidByText := true, laidKinds := [.data, .data], laidTests := true, laidLooks := .later }
def FnExactRankSumsUptoCardSaid : Prop := Claim7.holds Tryd.pinned (.plain (OpenSpec.upto fnExactRankSumsSpec)) fnExactRankSumsUptoCard
end Rows
end Go.Proofs.YtlfbpaphjkbcmaaDoor
