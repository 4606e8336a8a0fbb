/-
  No cell of these rows narrows 'for every input' (looked for: loops, veiled, ifaces, maps, wideKeys, modest, calm, conditions, laid).
  DERIVED. THE GIVEN ROWS OF THIS SEAT. 2 by the template 'for every input the law returns true; each argument reads behind the call as it read before'; 0 by the template 'total and deterministic' (their statements: YtbiggilheicfjaaTotals.lean).
  GIVEN WITH THE SEED: the statements are not yours to turn. If you find one false, say at which input.
  Laid BY PROGRAM, IN A SANDBOX (cutbox-rows.mjs): the forced cells as the released guide's own fill.sh prints them over the translation 01fec6994fbb53a7… (all of the seat's roots in one cut). By AI agents, Wed Nov 11 2026. No macro, syntax, notation, axiom, sorry.
-/
import Derived.Test.YtbiggilheicfjaaChecked
import GoSem.Claim
import GoSem.ClaimJoined
import GoSem.ClaimMapViews
import Derived.JoinedTies
import Derived.KernelRfl
namespace Go.Proofs.Ytbiggilheicfjaa
/- THE CELL 'sum', in the pinned program and in every row, IS THE sha256 OF THE DUMP (.gsa) THAT YtbiggilheicfjaaProg.lean LOADS. Nothing in Lean hashes anything: it is a label: what it is worth is what the hold of that sum in a sandbox is worth. -/
noncomputable def Try.pinned : Pinned := { name := "ytbiggilheicfjaa", sum := "01fec6994fbb53a782b9f5eb855de6ddda4a719bb5dd0f6b56cb29ab328b5876", checked := Try.checked }
namespace Rows
def none {H : Type} : Left H := { results := [], args := [] }

/-- 'laws.FnExactTableIs': WHATEVER THE INPUT: true; the input reads as it did. -/
def fnExactTableIsSpec : ChangeSpec := { name := "fnExactTableIs", fn := fun _ => fun
  | [d1, d2] => { results := [.lit (.bool true)], args := [d1, d2] }
  | _ => none }
def fnExactTableIsRow : OpenClaim := { program := "ytbiggilheicfjaa", sum := "01fec6994fbb53a782b9f5eb855de6ddda4a719bb5dd0f6b56cb29ab328b5876", func := "loop.example/clubsandmembers/laws.FnExactTableIs", spec := "fnExactTableIs", unfollowed := true, recurses := true, apart := false }
def FnExactTableIsSaid : Prop := fnExactTableIsRow.holds Try.pinned (OpenSpec.ofChange fnExactTableIsSpec)

/-- ITS FALSE NEIGHBOUR: 'it returns false'. Refute it at one input. -/
def fnExactTableIsWrong : ChangeSpec := { name := "fnExactTableIs", fn := fun _ => fun
  | [d1, d2] => { results := [.lit (.bool false)], args := [d1, d2] }
  | _ => none }
def FnExactTableIsWrongFalsely : Prop := fnExactTableIsRow.holds Try.pinned (OpenSpec.ofChange fnExactTableIsWrong)

/-- 'laws.FnExactTableSteps': WHATEVER THE INPUT: true; the input reads as it did. -/
def fnExactTableStepsSpec : ChangeSpec := { name := "fnExactTableSteps", fn := fun _ => fun
  | [d] => { results := [.lit (.bool true)], args := [d] }
  | _ => none }
def fnExactTableStepsRow : OpenClaim := { program := "ytbiggilheicfjaa", sum := "01fec6994fbb53a782b9f5eb855de6ddda4a719bb5dd0f6b56cb29ab328b5876", func := "loop.example/clubsandmembers/laws.FnExactTableSteps", spec := "fnExactTableSteps", unfollowed := true, recurses := true, apart := false }
def FnExactTableStepsSaid : Prop := fnExactTableStepsRow.holds Try.pinned (OpenSpec.ofChange fnExactTableStepsSpec)

/-- ITS FALSE NEIGHBOUR: 'it returns false'. Refute it at one input. -/
def fnExactTableStepsWrong : ChangeSpec := { name := "fnExactTableSteps", fn := fun _ => fun
  | [d] => { results := [.lit (.bool false)], args := [d] }
  | _ => none }
def FnExactTableStepsWrongFalsely : Prop := fnExactTableStepsRow.holds Try.pinned (OpenSpec.ofChange fnExactTableStepsWrong)

/- THE SECOND FORM. 'bulk': how many values and letters a reading holds, each counted each time it is reached (what is shared counts as often as it is met; a slice's spare places count too). A statement '..UptoSaid' is the law's where the arguments, and the package variables that the reading takes, are together of bulk at most 1048576: NARROWER than '..Said'. Prove '..Said' where nothing that the law and all that it calls make is longer than what came in: it says more and counts as full. Else prove '..UptoSaid'. A law counts once. -/
mutual
def uptoBulk {H : Type} : DataW H → Nat
  | .lit (.string bytes) => bytes.length + 1
  | .lit _ => 1
  | .nil => 1
  | .ptr d => uptoBulk d + 1
  | .slice elems spare => uptoBulkAll elems + uptoBulkAll spare + 1
  | .agg parts => uptoBulkAll parts + 1
  | .iface _ d => uptoBulk d + 1
  | .map entries => uptoBulkEntries entries + 1
  | .held _ => 1
def uptoBulkAll {H : Type} : List (DataW H) → Nat
  | [] => 0
  | d :: r => uptoBulk d + uptoBulkAll r
def uptoBulkEntries {H : Type} : List (Lit × DataW H) → Nat
  | [] => 0
  | x :: r => uptoBulkEntry x + uptoBulkEntries r
def uptoBulkEntry {H : Type} : Lit × DataW H → Nat
  | (.string bytes, d) => bytes.length + uptoBulk d + 1
  | (_, d) => uptoBulk d + 1
 end
def uptoSmall : (H : Type) → List (DataW H) → Bool := fun _ ds => decide (uptoBulkAll ds ≤ 1048576)
def OpenSpec.upto (s : _root_.Go.ChangeSpec) : _root_.Go.OpenSpec := { _root_.Go.OpenSpec.ofChange s with cond := some uptoSmall }

/-- 'laws.FnExactTableIs', WHERE WHAT IT READS IS OF BULK AT MOST 1048576: true; the input reads as it did. -/
def fnExactTableIsUptoRow : OpenClaim := { program := "ytbiggilheicfjaa", sum := "01fec6994fbb53a782b9f5eb855de6ddda4a719bb5dd0f6b56cb29ab328b5876", func := "loop.example/clubsandmembers/laws.FnExactTableIs", spec := "fnExactTableIs", unfollowed := true, recurses := true, apart := false, narrowed := true }
def FnExactTableIsUptoSaid : Prop := fnExactTableIsUptoRow.holds Try.pinned (OpenSpec.upto fnExactTableIsSpec)

/-- 'laws.FnExactTableSteps', WHERE WHAT IT READS IS OF BULK AT MOST 1048576: true; the input reads as it did. -/
def fnExactTableStepsUptoRow : OpenClaim := { program := "ytbiggilheicfjaa", sum := "01fec6994fbb53a782b9f5eb855de6ddda4a719bb5dd0f6b56cb29ab328b5876", func := "loop.example/clubsandmembers/laws.FnExactTableSteps", spec := "fnExactTableSteps", unfollowed := true, recurses := true, apart := false, narrowed := true }
def FnExactTableStepsUptoSaid : Prop := fnExactTableStepsUptoRow.holds Try.pinned (OpenSpec.upto fnExactTableStepsSpec)

end Rows
end Go.Proofs.Ytbiggilheicfjaa
