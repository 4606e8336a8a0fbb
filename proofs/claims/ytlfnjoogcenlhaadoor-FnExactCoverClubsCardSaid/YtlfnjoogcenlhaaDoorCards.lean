/-
  DERIVED. GIVEN WITH THE SEED: THE CARDS: each row of YtlfnjoogcenlhaaDoorRows.lean that lists a variable, with what it lists TIED to the program's text (the seventh form; the later family's looks); each row that meets fmt, with fmt's text TOLD by the authors' own Lean function (tested against real Go, not proved from fmt's source: count such statements apart). THE CARD IS WHAT COUNTS. Prove the row's statement (the work); the ties are given (YtlfnjoogcenlhaaDoorTie.lean); close each card by the builder's one call (the guide's Derived/Test/ToyasCard.lean, 'card_holds'). Laid BY PROGRAM, IN A SANDBOX (cutbox-door.mjs). By AI agents, Wed Nov 11 2026. No macro, syntax, notation, axiom, sorry.
-/
import Derived.Test.YtlfnjoogcenlhaaDoorRows
import GoSem.ClaimSeven
namespace Go.Proofs.YtlfnjoogcenlhaaDoor
namespace Rows

/-- THE TIED CARD OF 'laws.FnExactCoverSets'. -/
def fnExactCoverSetsCard : Claim7 := { stood := { row := fnExactCoverSetsRow, standIns := [], harness := (true, "e51426d247febe14fe9d405330f4f05297dc2cd28ea631d6f6ec00eb91431889"), looks := false }, kinds := [], alts := [], laidByText := true, laidKinds := [.data, .data], laidTests := true, laidLooks := .later }
def FnExactCoverSetsCardSaid : Prop := Claim7.holds Tryd.pinned (.plain (OpenSpec.ofChange fnExactCoverSetsSpec)) fnExactCoverSetsCard

/-- THE TIED CARD OF 'laws.FnExactCoverClubs'. -/
def fnExactCoverClubsCard : Claim7 := { stood := { row := fnExactCoverClubsRow, standIns := [], harness := (true, "e51426d247febe14fe9d405330f4f05297dc2cd28ea631d6f6ec00eb91431889"), looks := false }, kinds := [], alts := [], laidByText := true, laidKinds := [.data, .data], laidTests := true, laidLooks := .later }
def FnExactCoverClubsCardSaid : Prop := Claim7.holds Tryd.pinned (.plain (OpenSpec.ofChange fnExactCoverClubsSpec)) fnExactCoverClubsCard

/-- THE TIED CARD OF 'laws.FnExactCoverSplit'. -/
def fnExactCoverSplitCard : Claim7 := { stood := { row := fnExactCoverSplitRow, standIns := [], harness := (true, "e51426d247febe14fe9d405330f4f05297dc2cd28ea631d6f6ec00eb91431889"), looks := false }, kinds := [], alts := [], laidByText := true, laidKinds := [.data, .data], laidTests := true, laidLooks := .later }
def FnExactCoverSplitCardSaid : Prop := Claim7.holds Tryd.pinned (.plain (OpenSpec.ofChange fnExactCoverSplitSpec)) fnExactCoverSplitCard

/-- THE TIED CARD OF 'laws.FnExactCoverSmall'. -/
def fnExactCoverSmallCard : Claim7 := { stood := { row := fnExactCoverSmallRow, standIns := [], harness := (true, "e51426d247febe14fe9d405330f4f05297dc2cd28ea631d6f6ec00eb91431889"), looks := false }, kinds := [], alts := [], laidByText := true, laidKinds := [.data, .data], laidTests := true, laidLooks := .later }
def FnExactCoverSmallCardSaid : Prop := Claim7.holds Tryd.pinned (.plain (OpenSpec.ofChange fnExactCoverSmallSpec)) fnExactCoverSmallCard

/-- THE TIED CARD OF 'laws.FnExactCoverPack'. -/
def fnExactCoverPackCard : Claim7 := { stood := { row := fnExactCoverPackRow, standIns := [], harness := (true, "e51426d247febe14fe9d405330f4f05297dc2cd28ea631d6f6ec00eb91431889"), looks := false }, kinds := [], alts := [], laidByText := true, laidKinds := [.data, .data], laidTests := true, laidLooks := .later }
def FnExactCoverPackCardSaid : Prop := Claim7.holds Tryd.pinned (.plain (OpenSpec.ofChange fnExactCoverPackSpec)) fnExactCoverPackCard

/-- THE TIED CARD OF 'laws.FnExactCoverGreedy'. -/
def fnExactCoverGreedyCard : Claim7 := { stood := { row := fnExactCoverGreedyRow, standIns := [], harness := (true, "e51426d247febe14fe9d405330f4f05297dc2cd28ea631d6f6ec00eb91431889"), looks := false }, kinds := [], alts := [], laidByText := true, laidKinds := [.data, .data], laidTests := true, laidLooks := .later }
def FnExactCoverGreedyCardSaid : Prop := Claim7.holds Tryd.pinned (.plain (OpenSpec.ofChange fnExactCoverGreedySpec)) fnExactCoverGreedyCard

/-- THE TIED CARD OF 'laws.FnExactCoverOwn'. -/
def fnExactCoverOwnCard : Claim7 := { stood := { row := fnExactCoverOwnRow, standIns := [], harness := (true, "e51426d247febe14fe9d405330f4f05297dc2cd28ea631d6f6ec00eb91431889"), looks := false }, kinds := [], alts := [], laidByText := true, laidKinds := [.data, .data], laidTests := true, laidLooks := .later }
def FnExactCoverOwnCardSaid : Prop := Claim7.holds Tryd.pinned (.plain (OpenSpec.ofChange fnExactCoverOwnSpec)) fnExactCoverOwnCard

/-- THE TIED CARD OF 'laws.FnExactCoverFree'. -/
def fnExactCoverFreeCard : Claim7 := { stood := { row := fnExactCoverFreeRow, standIns := [], harness := (true, "e51426d247febe14fe9d405330f4f05297dc2cd28ea631d6f6ec00eb91431889"), looks := false }, kinds := [], alts := [], laidByText := true, laidKinds := [.data, .data], laidTests := true, laidLooks := .later }
def FnExactCoverFreeCardSaid : Prop := Claim7.holds Tryd.pinned (.plain (OpenSpec.ofChange fnExactCoverFreeSpec)) fnExactCoverFreeCard

/-- THE SECOND FORM's CARD OF 'laws.FnExactCoverSets'. -/
def fnExactCoverSetsUptoCard : Claim7 := { stood := { row := fnExactCoverSetsUptoRow, standIns := [], harness := (true, "e51426d247febe14fe9d405330f4f05297dc2cd28ea631d6f6ec00eb91431889"), looks := false }, kinds := [], alts := [], laidByText := true, laidKinds := [.data, .data], laidTests := true, laidLooks := .later }
def FnExactCoverSetsUptoCardSaid : Prop := Claim7.holds Tryd.pinned (.plain (OpenSpec.upto fnExactCoverSetsSpec)) fnExactCoverSetsUptoCard

/-- THE SECOND FORM's CARD OF 'laws.FnExactCoverClubs'. -/
def fnExactCoverClubsUptoCard : Claim7 := { stood := { row := fnExactCoverClubsUptoRow, standIns := [], harness := (true, "e51426d247febe14fe9d405330f4f05297dc2cd28ea631d6f6ec00eb91431889"), looks := false }, kinds := [], alts := [], laidByText := true, laidKinds := [.data, .data], laidTests := true, laidLooks := .later }
def FnExactCoverClubsUptoCardSaid : Prop := Claim7.holds Tryd.pinned (.plain (OpenSpec.upto fnExactCoverClubsSpec)) fnExactCoverClubsUptoCard

/-- THE SECOND FORM's CARD OF 'laws.FnExactCoverSplit'. -/
def fnExactCoverSplitUptoCard : Claim7 := { stood := { row := fnExactCoverSplitUptoRow, standIns := [], harness := (true, "e51426d247febe14fe9d405330f4f05297dc2cd28ea631d6f6ec00eb91431889"), looks := false }, kinds := [], alts := [], laidByText := true, laidKinds := [.data, .data], laidTests := true, laidLooks := .later }
def FnExactCoverSplitUptoCardSaid : Prop := Claim7.holds Tryd.pinned (.plain (OpenSpec.upto fnExactCoverSplitSpec)) fnExactCoverSplitUptoCard

/-- THE SECOND FORM's CARD OF 'laws.FnExactCoverSmall'. -/
def fnExactCoverSmallUptoCard : Claim7 := { stood := { row := fnExactCoverSmallUptoRow, standIns := [], harness := (true, "e51426d247febe14fe9d405330f4f05297dc2cd28ea631d6f6ec00eb91431889"), looks := false }, kinds := [], alts := [], laidByText := true, laidKinds := [.data, .data], laidTests := true, laidLooks := .later }
def FnExactCoverSmallUptoCardSaid : Prop := Claim7.holds Tryd.pinned (.plain (OpenSpec.upto fnExactCoverSmallSpec)) fnExactCoverSmallUptoCard

/-- THE SECOND FORM's CARD OF 'laws.FnExactCoverPack'. -/
def fnExactCoverPackUptoCard : Claim7 := { stood := { row := fnExactCoverPackUptoRow, standIns := [], harness := (true, "e51426d247febe14fe9d405330f4f05297dc2cd28ea631d6f6ec00eb91431889"), looks := false }, kinds := [], alts := [], laidByText := true, laidKinds := [.data, .data], laidTests := true, laidLooks := .later }
def FnExactCoverPackUptoCardSaid : Prop := Claim7.holds Tryd.pinned (.plain (OpenSpec.upto fnExactCoverPackSpec)) fnExactCoverPackUptoCard

/-- THE SECOND FORM's CARD OF 'laws.FnExactCoverGreedy'. -/
def fnExactCoverGreedyUptoCard : Claim7 := { stood := { row := fnExactCoverGreedyUptoRow, standIns := [], harness := (true, "e51426d247febe14fe9d405330f4f05297dc2cd28ea631d6f6ec00eb91431889"), looks := false }, kinds := [], alts := [], laidByText := true, laidKinds := [.data, .data], laidTests := true, laidLooks := .later }
def FnExactCoverGreedyUptoCardSaid : Prop := Claim7.holds Tryd.pinned (.plain (OpenSpec.upto fnExactCoverGreedySpec)) fnExactCoverGreedyUptoCard

/-- THE SECOND FORM's CARD OF 'laws.FnExactCoverOwn'. -/
def fnExactCoverOwnUptoCard : Claim7 := { stood := { row := fnExactCoverOwnUptoRow, standIns := [], harness := (true, "e51426d247febe14fe9d405330f4f05297dc2cd28ea631d6f6ec00eb91431889"), looks := false }, kinds := [], alts := [], laidByText := true, laidKinds := [.data, .data], laidTests := true, laidLooks := .later }
def FnExactCoverOwnUptoCardSaid : Prop := Claim7.holds Tryd.pinned (.plain (OpenSpec.upto fnExactCoverOwnSpec)) fnExactCoverOwnUptoCard

/-- THE SECOND FORM's CARD OF 'laws.FnExactCoverFree'. -/
def fnExactCoverFreeUptoCard : Claim7 := { stood := { row := fnExactCoverFreeUptoRow, standIns := [], harness := (true, "e51426d247febe14fe9d405330f4f05297dc2cd28ea631d6f6ec00eb91431889"), looks := false }, kinds := [], alts := [], laidByText := true, laidKinds := [.data, .data], laidTests := true, laidLooks := .later }
def FnExactCoverFreeUptoCardSaid : Prop := Claim7.holds Tryd.pinned (.plain (OpenSpec.upto fnExactCoverFreeSpec)) fnExactCoverFreeUptoCard
end Rows
end Go.Proofs.YtlfnjoogcenlhaaDoor
