/-
  DERIVED. GIVEN WITH THE SEED: THE CARDS: each row of YtjclfpcnfmpjdaaDoorRows.lean that lists a variable, with what it lists TIED to the program's text (the seventh form; the later family's looks); each row that meets fmt, with fmt's text TOLD by the authors' own Lean function (tested against real Go, not proved from fmt's source: count such statements apart). THE CARD IS WHAT COUNTS. Prove the row's statement (the work); the ties are given (YtjclfpcnfmpjdaaDoorTie.lean); close each card by the builder's one call (the guide's Derived/Test/ToyasCard.lean, 'card_holds'). Laid BY PROGRAM, IN A SANDBOX (cutbox-door.mjs). By AI agents, Wed Nov 11 2026. No macro, syntax, notation, axiom, sorry.
-/
import Derived.Test.YtjclfpcnfmpjdaaDoorRows
import GoSem.ClaimSeven
namespace Go.Proofs.YtjclfpcnfmpjdaaDoor
namespace Rows

/-- THE TIED CARD OF 'laws.FnAlike'. -/
def fnAlikeCard : Claim7 := { stood := { row := fnAlikeRow, standIns := [], harness := (true, "5716fc86ac9c47ec2933a6c56d7a520ab72901f3fff94d465e8b481e42add155"), looks := false }, kinds := [], alts := [], laidByText := true, laidKinds := [.data, .data], laidTests := true, laidLooks := .later }
def FnAlikeCardSaid : Prop := Claim7.holds Tryd.pinned (.plain (OpenSpec.ofChange fnAlikeSpec)) fnAlikeCard

/-- THE TIED CARD OF 'laws.FnAlikeLeast'. -/
def fnAlikeLeastCard : Claim7 := { stood := { row := fnAlikeLeastRow, standIns := [], harness := (true, "5716fc86ac9c47ec2933a6c56d7a520ab72901f3fff94d465e8b481e42add155"), looks := false }, kinds := [], alts := [], laidByText := true, laidKinds := [.data, .data], laidTests := true, laidLooks := .later }
def FnAlikeLeastCardSaid : Prop := Claim7.holds Tryd.pinned (.plain (OpenSpec.ofChange fnAlikeLeastSpec)) fnAlikeLeastCard

/-- THE TIED CARD OF 'laws.FnAlikeNames'. -/
def fnAlikeNamesCard : Claim7 := { stood := { row := fnAlikeNamesRow, standIns := [], harness := (true, "5716fc86ac9c47ec2933a6c56d7a520ab72901f3fff94d465e8b481e42add155"), looks := false }, kinds := [], alts := [], laidByText := true, laidKinds := [.data, .data], laidTests := true, laidLooks := .later }
def FnAlikeNamesCardSaid : Prop := Claim7.holds Tryd.pinned (.plain (OpenSpec.ofChange fnAlikeNamesSpec)) fnAlikeNamesCard

/-- THE TIED CARD OF 'laws.FnSame'. -/
def fnSameCard : Claim7 := { stood := { row := fnSameRow, standIns := [], harness := (true, "5716fc86ac9c47ec2933a6c56d7a520ab72901f3fff94d465e8b481e42add155"), looks := false }, kinds := [], alts := [], laidByText := true, laidKinds := [.data, .data], laidTests := true, laidLooks := .later }
def FnSameCardSaid : Prop := Claim7.holds Tryd.pinned (.plain (OpenSpec.ofChange fnSameSpec)) fnSameCard

/-- THE TIED CARD OF 'laws.FnOrbits'. -/
def fnOrbitsCard : Claim7 := { stood := { row := fnOrbitsRow, standIns := [], harness := (true, "5716fc86ac9c47ec2933a6c56d7a520ab72901f3fff94d465e8b481e42add155"), looks := false }, kinds := [], alts := [], laidByText := true, laidKinds := [.data, .data], laidTests := true, laidLooks := .later }
def FnOrbitsCardSaid : Prop := Claim7.holds Tryd.pinned (.plain (OpenSpec.ofChange fnOrbitsSpec)) fnOrbitsCard

/-- THE TIED CARD OF 'laws.FnExactAlikeIn'. -/
def fnExactAlikeInCard : Claim7 := { stood := { row := fnExactAlikeInRow, standIns := [], harness := (true, "5716fc86ac9c47ec2933a6c56d7a520ab72901f3fff94d465e8b481e42add155"), looks := false }, kinds := [], alts := [], laidByText := true, laidKinds := [.data, .data], laidTests := true, laidLooks := .later }
def FnExactAlikeInCardSaid : Prop := Claim7.holds Tryd.pinned (.plain (OpenSpec.ofChange fnExactAlikeInSpec)) fnExactAlikeInCard

/-- THE TIED CARD OF 'laws.FnExactAlikeLeast'. -/
def fnExactAlikeLeastCard : Claim7 := { stood := { row := fnExactAlikeLeastRow, standIns := [], harness := (true, "5716fc86ac9c47ec2933a6c56d7a520ab72901f3fff94d465e8b481e42add155"), looks := false }, kinds := [], alts := [], laidByText := true, laidKinds := [.data, .data], laidTests := true, laidLooks := .later }
def FnExactAlikeLeastCardSaid : Prop := Claim7.holds Tryd.pinned (.plain (OpenSpec.ofChange fnExactAlikeLeastSpec)) fnExactAlikeLeastCard

/-- THE SECOND FORM's CARD OF 'laws.FnAlike'. -/
def fnAlikeUptoCard : Claim7 := { stood := { row := fnAlikeUptoRow, standIns := [], harness := (true, "5716fc86ac9c47ec2933a6c56d7a520ab72901f3fff94d465e8b481e42add155"), looks := false }, kinds := [], alts := [], laidByText := true, laidKinds := [.data, .data], laidTests := true, laidLooks := .later }
def FnAlikeUptoCardSaid : Prop := Claim7.holds Tryd.pinned (.plain (OpenSpec.upto fnAlikeSpec)) fnAlikeUptoCard

/-- THE SECOND FORM's CARD OF 'laws.FnAlikeLeast'. -/
def fnAlikeLeastUptoCard : Claim7 := { stood := { row := fnAlikeLeastUptoRow, standIns := [], harness := (true, "5716fc86ac9c47ec2933a6c56d7a520ab72901f3fff94d465e8b481e42add155"), looks := false }, kinds := [], alts := [], laidByText := true, laidKinds := [.data, .data], laidTests := true, laidLooks := .later }
def FnAlikeLeastUptoCardSaid : Prop := Claim7.holds Tryd.pinned (.plain (OpenSpec.upto fnAlikeLeastSpec)) fnAlikeLeastUptoCard

/-- THE SECOND FORM's CARD OF 'laws.FnAlikeNames'. -/
def fnAlikeNamesUptoCard : Claim7 := { stood := { row := fnAlikeNamesUptoRow, standIns := [], harness := (true, "5716fc86ac9c47ec2933a6c56d7a520ab72901f3fff94d465e8b481e42add155"), looks := false }, kinds := [], alts := [], laidByText := true, laidKinds := [.data, .data], laidTests := true, laidLooks := .later }
def FnAlikeNamesUptoCardSaid : Prop := Claim7.holds Tryd.pinned (.plain (OpenSpec.upto fnAlikeNamesSpec)) fnAlikeNamesUptoCard

/-- THE SECOND FORM's CARD OF 'laws.FnSame'. -/
def fnSameUptoCard : Claim7 := { stood := { row := fnSameUptoRow, standIns := [], harness := (true, "5716fc86ac9c47ec2933a6c56d7a520ab72901f3fff94d465e8b481e42add155"), looks := false }, kinds := [], alts := [], laidByText := true, laidKinds := [.data, .data], laidTests := true, laidLooks := .later }
def FnSameUptoCardSaid : Prop := Claim7.holds Tryd.pinned (.plain (OpenSpec.upto fnSameSpec)) fnSameUptoCard

/-- THE SECOND FORM's CARD OF 'laws.FnOrbits'. -/
def fnOrbitsUptoCard : Claim7 := { stood := { row := fnOrbitsUptoRow, standIns := [], harness := (true, "5716fc86ac9c47ec2933a6c56d7a520ab72901f3fff94d465e8b481e42add155"), looks := false }, kinds := [], alts := [], laidByText := true, laidKinds := [.data, .data], laidTests := true, laidLooks := .later }
def FnOrbitsUptoCardSaid : Prop := Claim7.holds Tryd.pinned (.plain (OpenSpec.upto fnOrbitsSpec)) fnOrbitsUptoCard

/-- THE SECOND FORM's CARD OF 'laws.FnExactAlikeIn'. -/
def fnExactAlikeInUptoCard : Claim7 := { stood := { row := fnExactAlikeInUptoRow, standIns := [], harness := (true, "5716fc86ac9c47ec2933a6c56d7a520ab72901f3fff94d465e8b481e42add155"), looks := false }, kinds := [], alts := [], laidByText := true, laidKinds := [.data, .data], laidTests := true, laidLooks := .later }
def FnExactAlikeInUptoCardSaid : Prop := Claim7.holds Tryd.pinned (.plain (OpenSpec.upto fnExactAlikeInSpec)) fnExactAlikeInUptoCard

/-- THE SECOND FORM's CARD OF 'laws.FnExactAlikeLeast'. -/
def fnExactAlikeLeastUptoCard : Claim7 := { stood := { row := fnExactAlikeLeastUptoRow, standIns := [], harness := (true, "5716fc86ac9c47ec2933a6c56d7a520ab72901f3fff94d465e8b481e42add155"), looks := false }, kinds := [], alts := [], laidByText := true, laidKinds := [.data, .data], laidTests := true, laidLooks := .later }
def FnExactAlikeLeastUptoCardSaid : Prop := Claim7.holds Tryd.pinned (.plain (OpenSpec.upto fnExactAlikeLeastSpec)) fnExactAlikeLeastUptoCard
end Rows
end Go.Proofs.YtjclfpcnfmpjdaaDoor
