/-
  DERIVED. GIVEN WITH THE SEED: THE CARDS: each row of YtgaappbcekllhaaDoorRows.lean that lists a variable, with what it lists TIED to the program's text (the seventh form; the later family's looks); each row that meets fmt, with fmt's text TOLD by the authors' own Lean function (tested against real Go, not proved from fmt's source: count such statements apart). THE CARD IS WHAT COUNTS. Prove the row's statement (the work); the ties are given (YtgaappbcekllhaaDoorTie.lean); close each card by the builder's one call (the guide's Derived/Test/ToyasCard.lean, 'card_holds'). Laid BY PROGRAM, IN A SANDBOX (cutbox-door.mjs). By AI agents, Wed Nov 11 2026. No macro, syntax, notation, axiom, sorry.
-/
import Derived.Test.YtgaappbcekllhaaDoorRows
import GoSem.ClaimSeven
namespace Go.Proofs.YtgaappbcekllhaaDoor
namespace Rows

/-- THE TIED CARD OF 'laws.FnBlocked'. -/
def fnBlockedCard : Claim7 := { stood := { row := fnBlockedRow, standIns := [], harness := (true, "c1fd79f158e385437b2efe17441b7836ed3f6d9a91ce1294ea39b24489cdb172"), looks := false }, kinds := [], alts := [], laidByText := true, laidKinds := [.data, .data], laidTests := true, laidLooks := .later }
def FnBlockedCardSaid : Prop := Claim7.holds Tryd.pinned (.plain (OpenSpec.ofChange fnBlockedSpec)) fnBlockedCard

/-- THE TIED CARD OF 'laws.FnExactSpeakerBlocked'. -/
def fnExactSpeakerBlockedCard : Claim7 := { stood := { row := fnExactSpeakerBlockedRow, standIns := [], harness := (true, "c1fd79f158e385437b2efe17441b7836ed3f6d9a91ce1294ea39b24489cdb172"), looks := false }, kinds := [], alts := [], laidByText := true, laidKinds := [.data, .data], laidTests := true, laidLooks := .later }
def FnExactSpeakerBlockedCardSaid : Prop := Claim7.holds Tryd.pinned (.plain (OpenSpec.ofChange fnExactSpeakerBlockedSpec)) fnExactSpeakerBlockedCard

/-- THE SECOND FORM's CARD OF 'laws.FnBlocked'. -/
def fnBlockedUptoCard : Claim7 := { stood := { row := fnBlockedUptoRow, standIns := [], harness := (true, "c1fd79f158e385437b2efe17441b7836ed3f6d9a91ce1294ea39b24489cdb172"), looks := false }, kinds := [], alts := [], laidByText := true, laidKinds := [.data, .data], laidTests := true, laidLooks := .later }
def FnBlockedUptoCardSaid : Prop := Claim7.holds Tryd.pinned (.plain (OpenSpec.upto fnBlockedSpec)) fnBlockedUptoCard

/-- THE SECOND FORM's CARD OF 'laws.FnExactSpeakerBlocked'. -/
def fnExactSpeakerBlockedUptoCard : Claim7 := { stood := { row := fnExactSpeakerBlockedUptoRow, standIns := [], harness := (true, "c1fd79f158e385437b2efe17441b7836ed3f6d9a91ce1294ea39b24489cdb172"), looks := false }, kinds := [], alts := [], laidByText := true, laidKinds := [.data, .data], laidTests := true, laidLooks := .later }
def FnExactSpeakerBlockedUptoCardSaid : Prop := Claim7.holds Tryd.pinned (.plain (OpenSpec.upto fnExactSpeakerBlockedSpec)) fnExactSpeakerBlockedUptoCard
end Rows
end Go.Proofs.YtgaappbcekllhaaDoor
