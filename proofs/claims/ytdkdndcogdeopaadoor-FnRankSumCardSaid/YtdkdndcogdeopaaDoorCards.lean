/-
  DERIVED. GIVEN WITH THE SEED: THE CARDS: each row of YtdkdndcogdeopaaDoorRows.lean that lists a variable, with what it lists TIED to the program's text (the seventh form; the later family's looks); each row that meets fmt, with fmt's text TOLD by the authors' own Lean function (tested against real Go, not proved from fmt's source: count such statements apart). THE CARD IS WHAT COUNTS. Prove the row's statement (the work); the ties are given (YtdkdndcogdeopaaDoorTie.lean); close each card by the builder's one call (the guide's Derived/Test/ToyasCard.lean, 'card_holds'). Laid BY PROGRAM, IN A SANDBOX (cutbox-door.mjs). By AI agents, Wed Nov 11 2026. No macro, syntax, notation, axiom, sorry.
-/
import Derived.Test.YtdkdndcogdeopaaDoorRows
import GoSem.ClaimSeven
namespace Go.Proofs.YtdkdndcogdeopaaDoor
namespace Rows

/-- THE TIED CARD OF 'laws.FnLines'. -/
def fnLinesCard : Claim7 := { stood := { row := fnLinesRow, standIns := [], harness := (true, "3b6e1090018dfb6f8bb08fe96441004eb7d0023c80b2224bd980e8f1b684f402"), looks := false }, kinds := [], alts := [], laidByText := true, laidKinds := [.data, .data], laidTests := true, laidLooks := .later }
def FnLinesCardSaid : Prop := Claim7.holds Tryd.pinned (.plain (OpenSpec.ofChange fnLinesSpec)) fnLinesCard

/-- THE TIED CARD OF 'laws.FnRankEven'. -/
def fnRankEvenCard : Claim7 := { stood := { row := fnRankEvenRow, standIns := [], harness := (true, "3b6e1090018dfb6f8bb08fe96441004eb7d0023c80b2224bd980e8f1b684f402"), looks := false }, kinds := [], alts := [], laidByText := true, laidKinds := [.data, .data], laidTests := true, laidLooks := .later }
def FnRankEvenCardSaid : Prop := Claim7.holds Tryd.pinned (.plain (OpenSpec.ofChange fnRankEvenSpec)) fnRankEvenCard

/-- THE TIED CARD OF 'laws.FnRankWhole'. -/
def fnRankWholeCard : Claim7 := { stood := { row := fnRankWholeRow, standIns := [], harness := (true, "3b6e1090018dfb6f8bb08fe96441004eb7d0023c80b2224bd980e8f1b684f402"), looks := false }, kinds := [], alts := [], laidByText := true, laidKinds := [.data, .data], laidTests := true, laidLooks := .later }
def FnRankWholeCardSaid : Prop := Claim7.holds Tryd.pinned (.plain (OpenSpec.ofChange fnRankWholeSpec)) fnRankWholeCard

/-- THE TIED CARD OF 'laws.FnRankSum'. -/
def fnRankSumCard : Claim7 := { stood := { row := fnRankSumRow, standIns := [], harness := (true, "3b6e1090018dfb6f8bb08fe96441004eb7d0023c80b2224bd980e8f1b684f402"), looks := false }, kinds := [], alts := [], laidByText := true, laidKinds := [.data, .data], laidTests := true, laidLooks := .later }
def FnRankSumCardSaid : Prop := Claim7.holds Tryd.pinned (.plain (OpenSpec.ofChange fnRankSumSpec)) fnRankSumCard

/-- THE TIED CARD OF 'laws.FnRankSums'. -/
def fnRankSumsCard : Claim7 := { stood := { row := fnRankSumsRow, standIns := [], harness := (true, "3b6e1090018dfb6f8bb08fe96441004eb7d0023c80b2224bd980e8f1b684f402"), looks := false }, kinds := [], alts := [], laidByText := true, laidKinds := [.data, .data], laidTests := true, laidLooks := .later }
def FnRankSumsCardSaid : Prop := Claim7.holds Tryd.pinned (.plain (OpenSpec.ofChange fnRankSumsSpec)) fnRankSumsCard

/-- THE TIED CARD OF 'laws.FnRankMeets'. -/
def fnRankMeetsCard : Claim7 := { stood := { row := fnRankMeetsRow, standIns := [], harness := (true, "3b6e1090018dfb6f8bb08fe96441004eb7d0023c80b2224bd980e8f1b684f402"), looks := false }, kinds := [], alts := [], laidByText := true, laidKinds := [.data, .data], laidTests := true, laidLooks := .later }
def FnRankMeetsCardSaid : Prop := Claim7.holds Tryd.pinned (.plain (OpenSpec.ofChange fnRankMeetsSpec)) fnRankMeetsCard

/-- THE TIED CARD OF 'laws.FnSpread'. -/
def fnSpreadCard : Claim7 := { stood := { row := fnSpreadRow, standIns := [], harness := (true, "3b6e1090018dfb6f8bb08fe96441004eb7d0023c80b2224bd980e8f1b684f402"), looks := false }, kinds := [], alts := [], laidByText := true, laidKinds := [.data, .data], laidTests := true, laidLooks := .later }
def FnSpreadCardSaid : Prop := Claim7.holds Tryd.pinned (.plain (OpenSpec.ofChange fnSpreadSpec)) fnSpreadCard

/-- THE TIED CARD OF 'laws.FnOddtown'. -/
def fnOddtownCard : Claim7 := { stood := { row := fnOddtownRow, standIns := [], harness := (true, "3b6e1090018dfb6f8bb08fe96441004eb7d0023c80b2224bd980e8f1b684f402"), looks := false }, kinds := [], alts := [], laidByText := true, laidKinds := [.data, .data], laidTests := true, laidLooks := .later }
def FnOddtownCardSaid : Prop := Claim7.holds Tryd.pinned (.plain (OpenSpec.ofChange fnOddtownSpec)) fnOddtownCard

/-- THE TIED CARD OF 'laws.FnFisher'. -/
def fnFisherCard : Claim7 := { stood := { row := fnFisherRow, standIns := [], harness := (true, "3b6e1090018dfb6f8bb08fe96441004eb7d0023c80b2224bd980e8f1b684f402"), looks := false }, kinds := [], alts := [], laidByText := true, laidKinds := [.data, .data], laidTests := true, laidLooks := .later }
def FnFisherCardSaid : Prop := Claim7.holds Tryd.pinned (.plain (OpenSpec.ofChange fnFisherSpec)) fnFisherCard

/-- THE SECOND FORM's CARD OF 'laws.FnLines'. -/
def fnLinesUptoCard : Claim7 := { stood := { row := fnLinesUptoRow, standIns := [], harness := (true, "3b6e1090018dfb6f8bb08fe96441004eb7d0023c80b2224bd980e8f1b684f402"), looks := false }, kinds := [], alts := [], laidByText := true, laidKinds := [.data, .data], laidTests := true, laidLooks := .later }
def FnLinesUptoCardSaid : Prop := Claim7.holds Tryd.pinned (.plain (OpenSpec.upto fnLinesSpec)) fnLinesUptoCard

/-- THE SECOND FORM's CARD OF 'laws.FnRankEven'. -/
def fnRankEvenUptoCard : Claim7 := { stood := { row := fnRankEvenUptoRow, standIns := [], harness := (true, "3b6e1090018dfb6f8bb08fe96441004eb7d0023c80b2224bd980e8f1b684f402"), looks := false }, kinds := [], alts := [], laidByText := true, laidKinds := [.data, .data], laidTests := true, laidLooks := .later }
def FnRankEvenUptoCardSaid : Prop := Claim7.holds Tryd.pinned (.plain (OpenSpec.upto fnRankEvenSpec)) fnRankEvenUptoCard

/-- THE SECOND FORM's CARD OF 'laws.FnRankWhole'. -/
def fnRankWholeUptoCard : Claim7 := { stood := { row := fnRankWholeUptoRow, standIns := [], harness := (true, "3b6e1090018dfb6f8bb08fe96441004eb7d0023c80b2224bd980e8f1b684f402"), looks := false }, kinds := [], alts := [], laidByText := true, laidKinds := [.data, .data], laidTests := true, laidLooks := .later }
def FnRankWholeUptoCardSaid : Prop := Claim7.holds Tryd.pinned (.plain (OpenSpec.upto fnRankWholeSpec)) fnRankWholeUptoCard

/-- THE SECOND FORM's CARD OF 'laws.FnRankSum'. -/
def fnRankSumUptoCard : Claim7 := { stood := { row := fnRankSumUptoRow, standIns := [], harness := (true, "3b6e1090018dfb6f8bb08fe96441004eb7d0023c80b2224bd980e8f1b684f402"), looks := false }, kinds := [], alts := [], laidByText := true, laidKinds := [.data, .data], laidTests := true, laidLooks := .later }
def FnRankSumUptoCardSaid : Prop := Claim7.holds Tryd.pinned (.plain (OpenSpec.upto fnRankSumSpec)) fnRankSumUptoCard

/-- THE SECOND FORM's CARD OF 'laws.FnRankSums'. -/
def fnRankSumsUptoCard : Claim7 := { stood := { row := fnRankSumsUptoRow, standIns := [], harness := (true, "3b6e1090018dfb6f8bb08fe96441004eb7d0023c80b2224bd980e8f1b684f402"), looks := false }, kinds := [], alts := [], laidByText := true, laidKinds := [.data, .data], laidTests := true, laidLooks := .later }
def FnRankSumsUptoCardSaid : Prop := Claim7.holds Tryd.pinned (.plain (OpenSpec.upto fnRankSumsSpec)) fnRankSumsUptoCard

/-- THE SECOND FORM's CARD OF 'laws.FnRankMeets'. -/
def fnRankMeetsUptoCard : Claim7 := { stood := { row := fnRankMeetsUptoRow, standIns := [], harness := (true, "3b6e1090018dfb6f8bb08fe96441004eb7d0023c80b2224bd980e8f1b684f402"), looks := false }, kinds := [], alts := [], laidByText := true, laidKinds := [.data, .data], laidTests := true, laidLooks := .later }
def FnRankMeetsUptoCardSaid : Prop := Claim7.holds Tryd.pinned (.plain (OpenSpec.upto fnRankMeetsSpec)) fnRankMeetsUptoCard

/-- THE SECOND FORM's CARD OF 'laws.FnSpread'. -/
def fnSpreadUptoCard : Claim7 := { stood := { row := fnSpreadUptoRow, standIns := [], harness := (true, "3b6e1090018dfb6f8bb08fe96441004eb7d0023c80b2224bd980e8f1b684f402"), looks := false }, kinds := [], alts := [], laidByText := true, laidKinds := [.data, .data], laidTests := true, laidLooks := .later }
def FnSpreadUptoCardSaid : Prop := Claim7.holds Tryd.pinned (.plain (OpenSpec.upto fnSpreadSpec)) fnSpreadUptoCard

/-- THE SECOND FORM's CARD OF 'laws.FnOddtown'. -/
def fnOddtownUptoCard : Claim7 := { stood := { row := fnOddtownUptoRow, standIns := [], harness := (true, "3b6e1090018dfb6f8bb08fe96441004eb7d0023c80b2224bd980e8f1b684f402"), looks := false }, kinds := [], alts := [], laidByText := true, laidKinds := [.data, .data], laidTests := true, laidLooks := .later }
def FnOddtownUptoCardSaid : Prop := Claim7.holds Tryd.pinned (.plain (OpenSpec.upto fnOddtownSpec)) fnOddtownUptoCard

/-- THE SECOND FORM's CARD OF 'laws.FnFisher'. -/
def fnFisherUptoCard : Claim7 := { stood := { row := fnFisherUptoRow, standIns := [], harness := (true, "3b6e1090018dfb6f8bb08fe96441004eb7d0023c80b2224bd980e8f1b684f402"), looks := false }, kinds := [], alts := [], laidByText := true, laidKinds := [.data, .data], laidTests := true, laidLooks := .later }
def FnFisherUptoCardSaid : Prop := Claim7.holds Tryd.pinned (.plain (OpenSpec.upto fnFisherSpec)) fnFisherUptoCard
end Rows
end Go.Proofs.YtdkdndcogdeopaaDoor
