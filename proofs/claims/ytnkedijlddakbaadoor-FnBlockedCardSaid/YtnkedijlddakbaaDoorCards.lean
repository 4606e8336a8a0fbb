/-
  DERIVED. GIVEN WITH THE SEED: THE CARDS: each row of YtnkedijlddakbaaDoorRows.lean that lists a variable, with what it lists TIED to the program's text (the seventh form; the later family's looks); each row that meets fmt, with fmt's text TOLD by the authors' own Lean function (tested against real Go, not proved from fmt's source: count such statements apart). THE CARD IS WHAT COUNTS. Prove the row's statement (the work); the ties are given (YtnkedijlddakbaaDoorTie.lean); close each card by the builder's one call (the guide's Derived/Test/ToyasCard.lean, 'card_holds'). Laid BY PROGRAM, IN A SANDBOX (cutbox-door.mjs). By AI agents, Wed Nov 11 2026. No macro, syntax, notation, axiom, sorry.
-/
import Derived.Test.YtnkedijlddakbaaDoorRows
import GoSem.ClaimSeven
namespace Go.Proofs.YtnkedijlddakbaaDoor
namespace Rows

/-- THE TIED CARD OF 'laws.FnBad'. -/
def fnBadCard : Claim7 := { stood := { row := fnBadRow, standIns := [], harness := (true, "07f4d339a85f7c44f84f037c4d78bf60de68a73f298c3cfc63236406c5e92398"), looks := false }, kinds := [], alts := [], laidByText := true, laidKinds := [.data, .data], laidTests := true, laidLooks := .later }
def FnBadCardSaid : Prop := Claim7.holds Tryd.pinned (.plain (OpenSpec.ofChange fnBadSpec)) fnBadCard

/-- THE TIED CARD OF 'laws.FnPairs'. -/
def fnPairsCard : Claim7 := { stood := { row := fnPairsRow, standIns := [], harness := (true, "07f4d339a85f7c44f84f037c4d78bf60de68a73f298c3cfc63236406c5e92398"), looks := false }, kinds := [], alts := [], laidByText := true, laidKinds := [.data, .data], laidTests := true, laidLooks := .later }
def FnPairsCardSaid : Prop := Claim7.holds Tryd.pinned (.plain (OpenSpec.ofChange fnPairsSpec)) fnPairsCard

/-- THE TIED CARD OF 'laws.FnBlocked'. -/
def fnBlockedCard : Claim7 := { stood := { row := fnBlockedRow, standIns := [], harness := (true, "07f4d339a85f7c44f84f037c4d78bf60de68a73f298c3cfc63236406c5e92398"), looks := false }, kinds := [], alts := [], laidByText := true, laidKinds := [.data, .data], laidTests := true, laidLooks := .later }
def FnBlockedCardSaid : Prop := Claim7.holds Tryd.pinned (.plain (OpenSpec.ofChange fnBlockedSpec)) fnBlockedCard

/-- THE TIED CARD OF 'laws.FnExactSpeakerBad'. -/
def fnExactSpeakerBadCard : Claim7 := { stood := { row := fnExactSpeakerBadRow, standIns := [], harness := (true, "07f4d339a85f7c44f84f037c4d78bf60de68a73f298c3cfc63236406c5e92398"), looks := false }, kinds := [], alts := [], laidByText := true, laidKinds := [.data, .data], laidTests := true, laidLooks := .later }
def FnExactSpeakerBadCardSaid : Prop := Claim7.holds Tryd.pinned (.plain (OpenSpec.ofChange fnExactSpeakerBadSpec)) fnExactSpeakerBadCard

/-- THE TIED CARD OF 'laws.FnExactSpeakerPairs'. -/
def fnExactSpeakerPairsCard : Claim7 := { stood := { row := fnExactSpeakerPairsRow, standIns := [], harness := (true, "07f4d339a85f7c44f84f037c4d78bf60de68a73f298c3cfc63236406c5e92398"), looks := false }, kinds := [], alts := [], laidByText := true, laidKinds := [.data, .data], laidTests := true, laidLooks := .later }
def FnExactSpeakerPairsCardSaid : Prop := Claim7.holds Tryd.pinned (.plain (OpenSpec.ofChange fnExactSpeakerPairsSpec)) fnExactSpeakerPairsCard

/-- THE TIED CARD OF 'laws.FnExactSpeakerBlocked'. -/
def fnExactSpeakerBlockedCard : Claim7 := { stood := { row := fnExactSpeakerBlockedRow, standIns := [], harness := (true, "07f4d339a85f7c44f84f037c4d78bf60de68a73f298c3cfc63236406c5e92398"), looks := false }, kinds := [], alts := [], laidByText := true, laidKinds := [.data, .data], laidTests := true, laidLooks := .later }
def FnExactSpeakerBlockedCardSaid : Prop := Claim7.holds Tryd.pinned (.plain (OpenSpec.ofChange fnExactSpeakerBlockedSpec)) fnExactSpeakerBlockedCard

/-- THE SECOND FORM's CARD OF 'laws.FnBad'. -/
def fnBadUptoCard : Claim7 := { stood := { row := fnBadUptoRow, standIns := [], harness := (true, "07f4d339a85f7c44f84f037c4d78bf60de68a73f298c3cfc63236406c5e92398"), looks := false }, kinds := [], alts := [], laidByText := true, laidKinds := [.data, .data], laidTests := true, laidLooks := .later }
def FnBadUptoCardSaid : Prop := Claim7.holds Tryd.pinned (.plain (OpenSpec.upto fnBadSpec)) fnBadUptoCard

/-- THE SECOND FORM's CARD OF 'laws.FnPairs'. -/
def fnPairsUptoCard : Claim7 := { stood := { row := fnPairsUptoRow, standIns := [], harness := (true, "07f4d339a85f7c44f84f037c4d78bf60de68a73f298c3cfc63236406c5e92398"), looks := false }, kinds := [], alts := [], laidByText := true, laidKinds := [.data, .data], laidTests := true, laidLooks := .later }
def FnPairsUptoCardSaid : Prop := Claim7.holds Tryd.pinned (.plain (OpenSpec.upto fnPairsSpec)) fnPairsUptoCard

/-- THE SECOND FORM's CARD OF 'laws.FnBlocked'. -/
def fnBlockedUptoCard : Claim7 := { stood := { row := fnBlockedUptoRow, standIns := [], harness := (true, "07f4d339a85f7c44f84f037c4d78bf60de68a73f298c3cfc63236406c5e92398"), looks := false }, kinds := [], alts := [], laidByText := true, laidKinds := [.data, .data], laidTests := true, laidLooks := .later }
def FnBlockedUptoCardSaid : Prop := Claim7.holds Tryd.pinned (.plain (OpenSpec.upto fnBlockedSpec)) fnBlockedUptoCard

/-- THE SECOND FORM's CARD OF 'laws.FnExactSpeakerBad'. -/
def fnExactSpeakerBadUptoCard : Claim7 := { stood := { row := fnExactSpeakerBadUptoRow, standIns := [], harness := (true, "07f4d339a85f7c44f84f037c4d78bf60de68a73f298c3cfc63236406c5e92398"), looks := false }, kinds := [], alts := [], laidByText := true, laidKinds := [.data, .data], laidTests := true, laidLooks := .later }
def FnExactSpeakerBadUptoCardSaid : Prop := Claim7.holds Tryd.pinned (.plain (OpenSpec.upto fnExactSpeakerBadSpec)) fnExactSpeakerBadUptoCard

/-- THE SECOND FORM's CARD OF 'laws.FnExactSpeakerPairs'. -/
def fnExactSpeakerPairsUptoCard : Claim7 := { stood := { row := fnExactSpeakerPairsUptoRow, standIns := [], harness := (true, "07f4d339a85f7c44f84f037c4d78bf60de68a73f298c3cfc63236406c5e92398"), looks := false }, kinds := [], alts := [], laidByText := true, laidKinds := [.data, .data], laidTests := true, laidLooks := .later }
def FnExactSpeakerPairsUptoCardSaid : Prop := Claim7.holds Tryd.pinned (.plain (OpenSpec.upto fnExactSpeakerPairsSpec)) fnExactSpeakerPairsUptoCard

/-- THE SECOND FORM's CARD OF 'laws.FnExactSpeakerBlocked'. -/
def fnExactSpeakerBlockedUptoCard : Claim7 := { stood := { row := fnExactSpeakerBlockedUptoRow, standIns := [], harness := (true, "07f4d339a85f7c44f84f037c4d78bf60de68a73f298c3cfc63236406c5e92398"), looks := false }, kinds := [], alts := [], laidByText := true, laidKinds := [.data, .data], laidTests := true, laidLooks := .later }
def FnExactSpeakerBlockedUptoCardSaid : Prop := Claim7.holds Tryd.pinned (.plain (OpenSpec.upto fnExactSpeakerBlockedSpec)) fnExactSpeakerBlockedUptoCard
end Rows
end Go.Proofs.YtnkedijlddakbaaDoor
