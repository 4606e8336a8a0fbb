/-
  DERIVED. GIVEN WITH THE SEED: THE CARDS: each row of YtcmpjegfikdofaaDoorRows.lean that lists a variable, with what it lists TIED to the program's text (the seventh form; the later family's looks); each row that meets fmt, with fmt's text TOLD by the authors' own Lean function (tested against real Go, not proved from fmt's source: count such statements apart). THE CARD IS WHAT COUNTS. Prove the row's statement (the work); the ties are given (YtcmpjegfikdofaaDoorTie.lean); close each card by the builder's one call (the guide's Derived/Test/ToyasCard.lean, 'card_holds'). Laid BY PROGRAM, IN A SANDBOX (cutbox-door.mjs). By AI agents, Wed Nov 11 2026. No macro, syntax, notation, axiom, sorry.
-/
import Derived.Test.YtcmpjegfikdofaaDoorRows
import GoSem.ClaimSeven
namespace Go.Proofs.YtcmpjegfikdofaaDoor
namespace Rows

/-- THE TIED CARD OF 'laws.FnByClubs'. -/
def fnByClubsCard : Claim7 := { stood := { row := fnByClubsRow, standIns := [], harness := (true, "8cbf0b965618127fe3932049b55109077913fcc9f8cb8266113db814e1adb19d"), looks := false }, kinds := [], alts := [], laidByText := true, laidKinds := [.data, .data], laidTests := true, laidLooks := .later }
def FnByClubsCardSaid : Prop := Claim7.holds Tryd.pinned (.plain (OpenSpec.ofChange fnByClubsSpec)) fnByClubsCard

/-- THE TIED CARD OF 'laws.FnBySplit'. -/
def fnBySplitCard : Claim7 := { stood := { row := fnBySplitRow, standIns := [], harness := (true, "8cbf0b965618127fe3932049b55109077913fcc9f8cb8266113db814e1adb19d"), looks := false }, kinds := [], alts := [], laidByText := true, laidKinds := [.data, .data], laidTests := true, laidLooks := .later }
def FnBySplitCardSaid : Prop := Claim7.holds Tryd.pinned (.plain (OpenSpec.ofChange fnBySplitSpec)) fnBySplitCard

/-- THE TIED CARD OF 'laws.FnCoverTwice'. -/
def fnCoverTwiceCard : Claim7 := { stood := { row := fnCoverTwiceRow, standIns := [], harness := (true, "8cbf0b965618127fe3932049b55109077913fcc9f8cb8266113db814e1adb19d"), looks := false }, kinds := [], alts := [], laidByText := true, laidKinds := [.data, .data], laidTests := true, laidLooks := .later }
def FnCoverTwiceCardSaid : Prop := Claim7.holds Tryd.pinned (.plain (OpenSpec.ofChange fnCoverTwiceSpec)) fnCoverTwiceCard

/-- THE TIED CARD OF 'laws.FnSmall'. -/
def fnSmallCard : Claim7 := { stood := { row := fnSmallRow, standIns := [], harness := (true, "8cbf0b965618127fe3932049b55109077913fcc9f8cb8266113db814e1adb19d"), looks := false }, kinds := [], alts := [], laidByText := true, laidKinds := [.data, .data], laidTests := true, laidLooks := .later }
def FnSmallCardSaid : Prop := Claim7.holds Tryd.pinned (.plain (OpenSpec.ofChange fnSmallSpec)) fnSmallCard

/-- THE TIED CARD OF 'laws.FnGreedy'. -/
def fnGreedyCard : Claim7 := { stood := { row := fnGreedyRow, standIns := [], harness := (true, "8cbf0b965618127fe3932049b55109077913fcc9f8cb8266113db814e1adb19d"), looks := false }, kinds := [], alts := [], laidByText := true, laidKinds := [.data, .data], laidTests := true, laidLooks := .later }
def FnGreedyCardSaid : Prop := Claim7.holds Tryd.pinned (.plain (OpenSpec.ofChange fnGreedySpec)) fnGreedyCard

/-- THE TIED CARD OF 'laws.FnOwn'. -/
def fnOwnCard : Claim7 := { stood := { row := fnOwnRow, standIns := [], harness := (true, "8cbf0b965618127fe3932049b55109077913fcc9f8cb8266113db814e1adb19d"), looks := false }, kinds := [], alts := [], laidByText := true, laidKinds := [.data, .data], laidTests := true, laidLooks := .later }
def FnOwnCardSaid : Prop := Claim7.holds Tryd.pinned (.plain (OpenSpec.ofChange fnOwnSpec)) fnOwnCard

/-- THE TIED CARD OF 'laws.FnExactCoverClubs'. -/
def fnExactCoverClubsCard : Claim7 := { stood := { row := fnExactCoverClubsRow, standIns := [], harness := (true, "8cbf0b965618127fe3932049b55109077913fcc9f8cb8266113db814e1adb19d"), looks := false }, kinds := [], alts := [], laidByText := true, laidKinds := [.data, .data], laidTests := true, laidLooks := .later }
def FnExactCoverClubsCardSaid : Prop := Claim7.holds Tryd.pinned (.plain (OpenSpec.ofChange fnExactCoverClubsSpec)) fnExactCoverClubsCard

/-- THE TIED CARD OF 'laws.FnExactCoverSplit'. -/
def fnExactCoverSplitCard : Claim7 := { stood := { row := fnExactCoverSplitRow, standIns := [], harness := (true, "8cbf0b965618127fe3932049b55109077913fcc9f8cb8266113db814e1adb19d"), looks := false }, kinds := [], alts := [], laidByText := true, laidKinds := [.data, .data], laidTests := true, laidLooks := .later }
def FnExactCoverSplitCardSaid : Prop := Claim7.holds Tryd.pinned (.plain (OpenSpec.ofChange fnExactCoverSplitSpec)) fnExactCoverSplitCard

/-- THE TIED CARD OF 'laws.FnExactCoverGreedy'. -/
def fnExactCoverGreedyCard : Claim7 := { stood := { row := fnExactCoverGreedyRow, standIns := [], harness := (true, "8cbf0b965618127fe3932049b55109077913fcc9f8cb8266113db814e1adb19d"), looks := false }, kinds := [], alts := [], laidByText := true, laidKinds := [.data, .data], laidTests := true, laidLooks := .later }
def FnExactCoverGreedyCardSaid : Prop := Claim7.holds Tryd.pinned (.plain (OpenSpec.ofChange fnExactCoverGreedySpec)) fnExactCoverGreedyCard

/-- THE SECOND FORM's CARD OF 'laws.FnByClubs'. -/
def fnByClubsUptoCard : Claim7 := { stood := { row := fnByClubsUptoRow, standIns := [], harness := (true, "8cbf0b965618127fe3932049b55109077913fcc9f8cb8266113db814e1adb19d"), looks := false }, kinds := [], alts := [], laidByText := true, laidKinds := [.data, .data], laidTests := true, laidLooks := .later }
def FnByClubsUptoCardSaid : Prop := Claim7.holds Tryd.pinned (.plain (OpenSpec.upto fnByClubsSpec)) fnByClubsUptoCard

/-- THE SECOND FORM's CARD OF 'laws.FnBySplit'. -/
def fnBySplitUptoCard : Claim7 := { stood := { row := fnBySplitUptoRow, standIns := [], harness := (true, "8cbf0b965618127fe3932049b55109077913fcc9f8cb8266113db814e1adb19d"), looks := false }, kinds := [], alts := [], laidByText := true, laidKinds := [.data, .data], laidTests := true, laidLooks := .later }
def FnBySplitUptoCardSaid : Prop := Claim7.holds Tryd.pinned (.plain (OpenSpec.upto fnBySplitSpec)) fnBySplitUptoCard

/-- THE SECOND FORM's CARD OF 'laws.FnCoverTwice'. -/
def fnCoverTwiceUptoCard : Claim7 := { stood := { row := fnCoverTwiceUptoRow, standIns := [], harness := (true, "8cbf0b965618127fe3932049b55109077913fcc9f8cb8266113db814e1adb19d"), looks := false }, kinds := [], alts := [], laidByText := true, laidKinds := [.data, .data], laidTests := true, laidLooks := .later }
def FnCoverTwiceUptoCardSaid : Prop := Claim7.holds Tryd.pinned (.plain (OpenSpec.upto fnCoverTwiceSpec)) fnCoverTwiceUptoCard

/-- THE SECOND FORM's CARD OF 'laws.FnSmall'. -/
def fnSmallUptoCard : Claim7 := { stood := { row := fnSmallUptoRow, standIns := [], harness := (true, "8cbf0b965618127fe3932049b55109077913fcc9f8cb8266113db814e1adb19d"), looks := false }, kinds := [], alts := [], laidByText := true, laidKinds := [.data, .data], laidTests := true, laidLooks := .later }
def FnSmallUptoCardSaid : Prop := Claim7.holds Tryd.pinned (.plain (OpenSpec.upto fnSmallSpec)) fnSmallUptoCard

/-- THE SECOND FORM's CARD OF 'laws.FnGreedy'. -/
def fnGreedyUptoCard : Claim7 := { stood := { row := fnGreedyUptoRow, standIns := [], harness := (true, "8cbf0b965618127fe3932049b55109077913fcc9f8cb8266113db814e1adb19d"), looks := false }, kinds := [], alts := [], laidByText := true, laidKinds := [.data, .data], laidTests := true, laidLooks := .later }
def FnGreedyUptoCardSaid : Prop := Claim7.holds Tryd.pinned (.plain (OpenSpec.upto fnGreedySpec)) fnGreedyUptoCard

/-- THE SECOND FORM's CARD OF 'laws.FnOwn'. -/
def fnOwnUptoCard : Claim7 := { stood := { row := fnOwnUptoRow, standIns := [], harness := (true, "8cbf0b965618127fe3932049b55109077913fcc9f8cb8266113db814e1adb19d"), looks := false }, kinds := [], alts := [], laidByText := true, laidKinds := [.data, .data], laidTests := true, laidLooks := .later }
def FnOwnUptoCardSaid : Prop := Claim7.holds Tryd.pinned (.plain (OpenSpec.upto fnOwnSpec)) fnOwnUptoCard

/-- THE SECOND FORM's CARD OF 'laws.FnExactCoverClubs'. -/
def fnExactCoverClubsUptoCard : Claim7 := { stood := { row := fnExactCoverClubsUptoRow, standIns := [], harness := (true, "8cbf0b965618127fe3932049b55109077913fcc9f8cb8266113db814e1adb19d"), looks := false }, kinds := [], alts := [], laidByText := true, laidKinds := [.data, .data], laidTests := true, laidLooks := .later }
def FnExactCoverClubsUptoCardSaid : Prop := Claim7.holds Tryd.pinned (.plain (OpenSpec.upto fnExactCoverClubsSpec)) fnExactCoverClubsUptoCard

/-- THE SECOND FORM's CARD OF 'laws.FnExactCoverSplit'. -/
def fnExactCoverSplitUptoCard : Claim7 := { stood := { row := fnExactCoverSplitUptoRow, standIns := [], harness := (true, "8cbf0b965618127fe3932049b55109077913fcc9f8cb8266113db814e1adb19d"), looks := false }, kinds := [], alts := [], laidByText := true, laidKinds := [.data, .data], laidTests := true, laidLooks := .later }
def FnExactCoverSplitUptoCardSaid : Prop := Claim7.holds Tryd.pinned (.plain (OpenSpec.upto fnExactCoverSplitSpec)) fnExactCoverSplitUptoCard

/-- THE SECOND FORM's CARD OF 'laws.FnExactCoverGreedy'. -/
def fnExactCoverGreedyUptoCard : Claim7 := { stood := { row := fnExactCoverGreedyUptoRow, standIns := [], harness := (true, "8cbf0b965618127fe3932049b55109077913fcc9f8cb8266113db814e1adb19d"), looks := false }, kinds := [], alts := [], laidByText := true, laidKinds := [.data, .data], laidTests := true, laidLooks := .later }
def FnExactCoverGreedyUptoCardSaid : Prop := Claim7.holds Tryd.pinned (.plain (OpenSpec.upto fnExactCoverGreedySpec)) fnExactCoverGreedyUptoCard
end Rows
end Go.Proofs.YtcmpjegfikdofaaDoor
