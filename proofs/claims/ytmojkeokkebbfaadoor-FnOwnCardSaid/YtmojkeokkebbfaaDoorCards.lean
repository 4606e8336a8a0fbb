/-
  DERIVED. GIVEN WITH THE SEED: THE CARDS: each row of YtmojkeokkebbfaaDoorRows.lean that lists a variable, with what it lists TIED to the program's text (the seventh form; the later family's looks); each row that meets fmt, with fmt's text TOLD by the authors' own Lean function (tested against real Go, not proved from fmt's source: count such statements apart). THE CARD IS WHAT COUNTS. Prove the row's statement (the work); the ties are given (YtmojkeokkebbfaaDoorTie.lean); close each card by the builder's one call (the guide's Derived/Test/ToyasCard.lean, 'card_holds'). Laid BY PROGRAM, IN A SANDBOX (cutbox-door.mjs). By AI agents, Wed Nov 11 2026. No macro, syntax, notation, axiom, sorry.
-/
import Derived.Test.YtmojkeokkebbfaaDoorRows
import GoSem.ClaimSeven
namespace Go.Proofs.YtmojkeokkebbfaaDoor
namespace Rows

/-- THE TIED CARD OF 'laws.FnCover'. -/
def fnCoverCard : Claim7 := { stood := { row := fnCoverRow, standIns := [], harness := (true, "ebfb0cda71e788ce3014e15b9346007868d3f3c4e335790270fc5f3fcf1edf41"), looks := false }, kinds := [], alts := [], laidByText := true, laidKinds := [.data, .data], laidTests := true, laidLooks := .later }
def FnCoverCardSaid : Prop := Claim7.holds Tryd.pinned (.plain (OpenSpec.ofChange fnCoverSpec)) fnCoverCard

/-- THE TIED CARD OF 'laws.FnByClubs'. -/
def fnByClubsCard : Claim7 := { stood := { row := fnByClubsRow, standIns := [], harness := (true, "ebfb0cda71e788ce3014e15b9346007868d3f3c4e335790270fc5f3fcf1edf41"), looks := false }, kinds := [], alts := [], laidByText := true, laidKinds := [.data, .data], laidTests := true, laidLooks := .later }
def FnByClubsCardSaid : Prop := Claim7.holds Tryd.pinned (.plain (OpenSpec.ofChange fnByClubsSpec)) fnByClubsCard

/-- THE TIED CARD OF 'laws.FnBySplit'. -/
def fnBySplitCard : Claim7 := { stood := { row := fnBySplitRow, standIns := [], harness := (true, "ebfb0cda71e788ce3014e15b9346007868d3f3c4e335790270fc5f3fcf1edf41"), looks := false }, kinds := [], alts := [], laidByText := true, laidKinds := [.data, .data], laidTests := true, laidLooks := .later }
def FnBySplitCardSaid : Prop := Claim7.holds Tryd.pinned (.plain (OpenSpec.ofChange fnBySplitSpec)) fnBySplitCard

/-- THE TIED CARD OF 'laws.FnCoverTwice'. -/
def fnCoverTwiceCard : Claim7 := { stood := { row := fnCoverTwiceRow, standIns := [], harness := (true, "ebfb0cda71e788ce3014e15b9346007868d3f3c4e335790270fc5f3fcf1edf41"), looks := false }, kinds := [], alts := [], laidByText := true, laidKinds := [.data, .data], laidTests := true, laidLooks := .later }
def FnCoverTwiceCardSaid : Prop := Claim7.holds Tryd.pinned (.plain (OpenSpec.ofChange fnCoverTwiceSpec)) fnCoverTwiceCard

/-- THE TIED CARD OF 'laws.FnSmall'. -/
def fnSmallCard : Claim7 := { stood := { row := fnSmallRow, standIns := [], harness := (true, "ebfb0cda71e788ce3014e15b9346007868d3f3c4e335790270fc5f3fcf1edf41"), looks := false }, kinds := [], alts := [], laidByText := true, laidKinds := [.data, .data], laidTests := true, laidLooks := .later }
def FnSmallCardSaid : Prop := Claim7.holds Tryd.pinned (.plain (OpenSpec.ofChange fnSmallSpec)) fnSmallCard

/-- THE TIED CARD OF 'laws.FnPack'. -/
def fnPackCard : Claim7 := { stood := { row := fnPackRow, standIns := [], harness := (true, "ebfb0cda71e788ce3014e15b9346007868d3f3c4e335790270fc5f3fcf1edf41"), looks := false }, kinds := [], alts := [], laidByText := true, laidKinds := [.data, .data], laidTests := true, laidLooks := .later }
def FnPackCardSaid : Prop := Claim7.holds Tryd.pinned (.plain (OpenSpec.ofChange fnPackSpec)) fnPackCard

/-- THE TIED CARD OF 'laws.FnGreedy'. -/
def fnGreedyCard : Claim7 := { stood := { row := fnGreedyRow, standIns := [], harness := (true, "ebfb0cda71e788ce3014e15b9346007868d3f3c4e335790270fc5f3fcf1edf41"), looks := false }, kinds := [], alts := [], laidByText := true, laidKinds := [.data, .data], laidTests := true, laidLooks := .later }
def FnGreedyCardSaid : Prop := Claim7.holds Tryd.pinned (.plain (OpenSpec.ofChange fnGreedySpec)) fnGreedyCard

/-- THE TIED CARD OF 'laws.FnOwn'. -/
def fnOwnCard : Claim7 := { stood := { row := fnOwnRow, standIns := [], harness := (true, "ebfb0cda71e788ce3014e15b9346007868d3f3c4e335790270fc5f3fcf1edf41"), looks := false }, kinds := [], alts := [], laidByText := true, laidKinds := [.data, .data], laidTests := true, laidLooks := .later }
def FnOwnCardSaid : Prop := Claim7.holds Tryd.pinned (.plain (OpenSpec.ofChange fnOwnSpec)) fnOwnCard

/-- THE TIED CARD OF 'laws.FnFree'. -/
def fnFreeCard : Claim7 := { stood := { row := fnFreeRow, standIns := [], harness := (true, "ebfb0cda71e788ce3014e15b9346007868d3f3c4e335790270fc5f3fcf1edf41"), looks := false }, kinds := [], alts := [], laidByText := true, laidKinds := [.data, .data], laidTests := true, laidLooks := .later }
def FnFreeCardSaid : Prop := Claim7.holds Tryd.pinned (.plain (OpenSpec.ofChange fnFreeSpec)) fnFreeCard

/-- THE SECOND FORM's CARD OF 'laws.FnCover'. -/
def fnCoverUptoCard : Claim7 := { stood := { row := fnCoverUptoRow, standIns := [], harness := (true, "ebfb0cda71e788ce3014e15b9346007868d3f3c4e335790270fc5f3fcf1edf41"), looks := false }, kinds := [], alts := [], laidByText := true, laidKinds := [.data, .data], laidTests := true, laidLooks := .later }
def FnCoverUptoCardSaid : Prop := Claim7.holds Tryd.pinned (.plain (OpenSpec.upto fnCoverSpec)) fnCoverUptoCard

/-- THE SECOND FORM's CARD OF 'laws.FnByClubs'. -/
def fnByClubsUptoCard : Claim7 := { stood := { row := fnByClubsUptoRow, standIns := [], harness := (true, "ebfb0cda71e788ce3014e15b9346007868d3f3c4e335790270fc5f3fcf1edf41"), looks := false }, kinds := [], alts := [], laidByText := true, laidKinds := [.data, .data], laidTests := true, laidLooks := .later }
def FnByClubsUptoCardSaid : Prop := Claim7.holds Tryd.pinned (.plain (OpenSpec.upto fnByClubsSpec)) fnByClubsUptoCard

/-- THE SECOND FORM's CARD OF 'laws.FnBySplit'. -/
def fnBySplitUptoCard : Claim7 := { stood := { row := fnBySplitUptoRow, standIns := [], harness := (true, "ebfb0cda71e788ce3014e15b9346007868d3f3c4e335790270fc5f3fcf1edf41"), looks := false }, kinds := [], alts := [], laidByText := true, laidKinds := [.data, .data], laidTests := true, laidLooks := .later }
def FnBySplitUptoCardSaid : Prop := Claim7.holds Tryd.pinned (.plain (OpenSpec.upto fnBySplitSpec)) fnBySplitUptoCard

/-- THE SECOND FORM's CARD OF 'laws.FnCoverTwice'. -/
def fnCoverTwiceUptoCard : Claim7 := { stood := { row := fnCoverTwiceUptoRow, standIns := [], harness := (true, "ebfb0cda71e788ce3014e15b9346007868d3f3c4e335790270fc5f3fcf1edf41"), looks := false }, kinds := [], alts := [], laidByText := true, laidKinds := [.data, .data], laidTests := true, laidLooks := .later }
def FnCoverTwiceUptoCardSaid : Prop := Claim7.holds Tryd.pinned (.plain (OpenSpec.upto fnCoverTwiceSpec)) fnCoverTwiceUptoCard

/-- THE SECOND FORM's CARD OF 'laws.FnSmall'. -/
def fnSmallUptoCard : Claim7 := { stood := { row := fnSmallUptoRow, standIns := [], harness := (true, "ebfb0cda71e788ce3014e15b9346007868d3f3c4e335790270fc5f3fcf1edf41"), looks := false }, kinds := [], alts := [], laidByText := true, laidKinds := [.data, .data], laidTests := true, laidLooks := .later }
def FnSmallUptoCardSaid : Prop := Claim7.holds Tryd.pinned (.plain (OpenSpec.upto fnSmallSpec)) fnSmallUptoCard

/-- THE SECOND FORM's CARD OF 'laws.FnPack'. -/
def fnPackUptoCard : Claim7 := { stood := { row := fnPackUptoRow, standIns := [], harness := (true, "ebfb0cda71e788ce3014e15b9346007868d3f3c4e335790270fc5f3fcf1edf41"), looks := false }, kinds := [], alts := [], laidByText := true, laidKinds := [.data, .data], laidTests := true, laidLooks := .later }
def FnPackUptoCardSaid : Prop := Claim7.holds Tryd.pinned (.plain (OpenSpec.upto fnPackSpec)) fnPackUptoCard

/-- THE SECOND FORM's CARD OF 'laws.FnGreedy'. -/
def fnGreedyUptoCard : Claim7 := { stood := { row := fnGreedyUptoRow, standIns := [], harness := (true, "ebfb0cda71e788ce3014e15b9346007868d3f3c4e335790270fc5f3fcf1edf41"), looks := false }, kinds := [], alts := [], laidByText := true, laidKinds := [.data, .data], laidTests := true, laidLooks := .later }
def FnGreedyUptoCardSaid : Prop := Claim7.holds Tryd.pinned (.plain (OpenSpec.upto fnGreedySpec)) fnGreedyUptoCard

/-- THE SECOND FORM's CARD OF 'laws.FnOwn'. -/
def fnOwnUptoCard : Claim7 := { stood := { row := fnOwnUptoRow, standIns := [], harness := (true, "ebfb0cda71e788ce3014e15b9346007868d3f3c4e335790270fc5f3fcf1edf41"), looks := false }, kinds := [], alts := [], laidByText := true, laidKinds := [.data, .data], laidTests := true, laidLooks := .later }
def FnOwnUptoCardSaid : Prop := Claim7.holds Tryd.pinned (.plain (OpenSpec.upto fnOwnSpec)) fnOwnUptoCard

/-- THE SECOND FORM's CARD OF 'laws.FnFree'. -/
def fnFreeUptoCard : Claim7 := { stood := { row := fnFreeUptoRow, standIns := [], harness := (true, "ebfb0cda71e788ce3014e15b9346007868d3f3c4e335790270fc5f3fcf1edf41"), looks := false }, kinds := [], alts := [], laidByText := true, laidKinds := [.data, .data], laidTests := true, laidLooks := .later }
def FnFreeUptoCardSaid : Prop := Claim7.holds Tryd.pinned (.plain (OpenSpec.upto fnFreeSpec)) fnFreeUptoCard
end Rows
end Go.Proofs.YtmojkeokkebbfaaDoor
