/-
  No cell of these rows narrows 'for every input' (looked for: loops, veiled, ifaces, maps, wideKeys, modest, calm, conditions, laid).
  DERIVED. THE GIVEN ROWS OF THIS SEAT. 5 by the template 'for every input the law returns true; each argument reads behind the call as it read before'; 0 by the template 'total and deterministic' (their statements: YtlfbpaphjkbcmaaTotals.lean).
  GIVEN WITH THE SEED: the statements are not yours to turn. If you find one false, say at which input.
  Laid BY PROGRAM, IN A SANDBOX (cutbox-rows.mjs): the forced cells as the released guide's own fill.sh prints them over the translation 943f2a2dd3448d73… (all of the seat's roots in one cut). By AI agents, Wed Nov 11 2026. No macro, syntax, notation, axiom, sorry.
-/
import Derived.Test.YtlfbpaphjkbcmaaChecked
import GoSem.Claim
import GoSem.ClaimJoined
import GoSem.ClaimMapViews
import Derived.JoinedTies
import Derived.KernelRfl
namespace Go.Proofs.Ytlfbpaphjkbcmaa
/- THE CELL 'sum', in the pinned program and in every row, IS THE sha256 OF THE DUMP (.gsa) THAT YtlfbpaphjkbcmaaProg.lean LOADS. Nothing in Lean hashes anything: it is a label: what it is worth is what the hold of that sum in a sandbox is worth. -/
noncomputable def Try.pinned : Pinned := { name := "ytlfbpaphjkbcmaa", sum := "943f2a2dd3448d73d08450fe1d728a6f6c68125d10428177f72699199ab514d6", checked := Try.checked }
namespace Rows
def none {H : Type} : Left H := { results := [], args := [] }

/-- 'laws.FnExactFamilySizes': WHATEVER THE INPUT: true; the input reads as it did. -/
def fnExactFamilySizesSpec : ChangeSpec := { name := "fnExactFamilySizes", fn := fun _ => fun
  | [d] => { results := [.lit (.bool true)], args := [d] }
  | _ => none }
def fnExactFamilySizesRow : OpenClaim := { program := "ytlfbpaphjkbcmaa", sum := "943f2a2dd3448d73d08450fe1d728a6f6c68125d10428177f72699199ab514d6", func := "loop.example/clubsandmembers/laws.FnExactFamilySizes", spec := "fnExactFamilySizes", unfollowed := true, recurses := true, apart := false }
def FnExactFamilySizesSaid : Prop := fnExactFamilySizesRow.holds Try.pinned (OpenSpec.ofChange fnExactFamilySizesSpec)

/-- ITS FALSE NEIGHBOUR: 'it returns false'. Refute it at one input. -/
def fnExactFamilySizesWrong : ChangeSpec := { name := "fnExactFamilySizes", fn := fun _ => fun
  | [d] => { results := [.lit (.bool false)], args := [d] }
  | _ => none }
def FnExactFamilySizesWrongFalsely : Prop := fnExactFamilySizesRow.holds Try.pinned (OpenSpec.ofChange fnExactFamilySizesWrong)

/-- 'laws.FnExactRankMeets': WHATEVER THE INPUT: true; the input reads as it did. -/
def fnExactRankMeetsSpec : ChangeSpec := { name := "fnExactRankMeets", fn := fun _ => fun
  | [d] => { results := [.lit (.bool true)], args := [d] }
  | _ => none }
def fnExactRankMeetsRow : OpenClaim := { program := "ytlfbpaphjkbcmaa", sum := "943f2a2dd3448d73d08450fe1d728a6f6c68125d10428177f72699199ab514d6", func := "loop.example/clubsandmembers/laws.FnExactRankMeets", spec := "fnExactRankMeets", unfollowed := true, recurses := true, apart := false }
def FnExactRankMeetsSaid : Prop := fnExactRankMeetsRow.holds Try.pinned (OpenSpec.ofChange fnExactRankMeetsSpec)

/-- ITS FALSE NEIGHBOUR: 'it returns false'. Refute it at one input. -/
def fnExactRankMeetsWrong : ChangeSpec := { name := "fnExactRankMeets", fn := fun _ => fun
  | [d] => { results := [.lit (.bool false)], args := [d] }
  | _ => none }
def FnExactRankMeetsWrongFalsely : Prop := fnExactRankMeetsRow.holds Try.pinned (OpenSpec.ofChange fnExactRankMeetsWrong)

/-- 'laws.FnExactRankSpread': WHATEVER THE INPUT: true; the input reads as it did. -/
def fnExactRankSpreadSpec : ChangeSpec := { name := "fnExactRankSpread", fn := fun _ => fun
  | [d] => { results := [.lit (.bool true)], args := [d] }
  | _ => none }
def fnExactRankSpreadRow : OpenClaim := { program := "ytlfbpaphjkbcmaa", sum := "943f2a2dd3448d73d08450fe1d728a6f6c68125d10428177f72699199ab514d6", func := "loop.example/clubsandmembers/laws.FnExactRankSpread", spec := "fnExactRankSpread", unfollowed := true, recurses := true, apart := false }
def FnExactRankSpreadSaid : Prop := fnExactRankSpreadRow.holds Try.pinned (OpenSpec.ofChange fnExactRankSpreadSpec)

/-- ITS FALSE NEIGHBOUR: 'it returns false'. Refute it at one input. -/
def fnExactRankSpreadWrong : ChangeSpec := { name := "fnExactRankSpread", fn := fun _ => fun
  | [d] => { results := [.lit (.bool false)], args := [d] }
  | _ => none }
def FnExactRankSpreadWrongFalsely : Prop := fnExactRankSpreadRow.holds Try.pinned (OpenSpec.ofChange fnExactRankSpreadWrong)

/-- 'laws.FnExactRankOdd': WHATEVER THE INPUT: true; the input reads as it did. -/
def fnExactRankOddSpec : ChangeSpec := { name := "fnExactRankOdd", fn := fun _ => fun
  | [d] => { results := [.lit (.bool true)], args := [d] }
  | _ => none }
def fnExactRankOddRow : OpenClaim := { program := "ytlfbpaphjkbcmaa", sum := "943f2a2dd3448d73d08450fe1d728a6f6c68125d10428177f72699199ab514d6", func := "loop.example/clubsandmembers/laws.FnExactRankOdd", spec := "fnExactRankOdd", unfollowed := true, recurses := true, apart := false }
def FnExactRankOddSaid : Prop := fnExactRankOddRow.holds Try.pinned (OpenSpec.ofChange fnExactRankOddSpec)

/-- ITS FALSE NEIGHBOUR: 'it returns false'. Refute it at one input. -/
def fnExactRankOddWrong : ChangeSpec := { name := "fnExactRankOdd", fn := fun _ => fun
  | [d] => { results := [.lit (.bool false)], args := [d] }
  | _ => none }
def FnExactRankOddWrongFalsely : Prop := fnExactRankOddRow.holds Try.pinned (OpenSpec.ofChange fnExactRankOddWrong)

/-- 'laws.FnExactRankSame': WHATEVER THE INPUT: true; the input reads as it did. -/
def fnExactRankSameSpec : ChangeSpec := { name := "fnExactRankSame", fn := fun _ => fun
  | [d] => { results := [.lit (.bool true)], args := [d] }
  | _ => none }
def fnExactRankSameRow : OpenClaim := { program := "ytlfbpaphjkbcmaa", sum := "943f2a2dd3448d73d08450fe1d728a6f6c68125d10428177f72699199ab514d6", func := "loop.example/clubsandmembers/laws.FnExactRankSame", spec := "fnExactRankSame", unfollowed := true, recurses := true, apart := false }
def FnExactRankSameSaid : Prop := fnExactRankSameRow.holds Try.pinned (OpenSpec.ofChange fnExactRankSameSpec)

/-- ITS FALSE NEIGHBOUR: 'it returns false'. Refute it at one input. -/
def fnExactRankSameWrong : ChangeSpec := { name := "fnExactRankSame", fn := fun _ => fun
  | [d] => { results := [.lit (.bool false)], args := [d] }
  | _ => none }
def FnExactRankSameWrongFalsely : Prop := fnExactRankSameRow.holds Try.pinned (OpenSpec.ofChange fnExactRankSameWrong)

/- THE SECOND FORM. 'bulk': how many values and letters a reading holds, each counted each time it is reached (what is shared counts as often as it is met; a slice's spare places count too). A statement '..UptoSaid' is the law's where the arguments, and the package variables that the reading takes, are together of bulk at most 1048576: NARROWER than '..Said'. Prove '..Said' where nothing that the law and all that it calls make is longer than what came in: it says more and counts as full. Else prove '..UptoSaid'. A law counts once. -/
mutual
def uptoBulk {H : Type} : DataW H → Nat
  | .lit (.string bytes) => bytes.length + 1
  | .lit _ => 1
  | .nil => 1
  | .ptr d => uptoBulk d + 1
  | .slice elems spare => uptoBulkAll elems + uptoBulkAll spare + 1
  | .agg parts => uptoBulkAll parts + 1
  | .iface _ d => uptoBulk d + 1
  | .map entries => uptoBulkEntries entries + 1
  | .held _ => 1
def uptoBulkAll {H : Type} : List (DataW H) → Nat
  | [] => 0
  | d :: r => uptoBulk d + uptoBulkAll r
def uptoBulkEntries {H : Type} : List (Lit × DataW H) → Nat
  | [] => 0
  | x :: r => uptoBulkEntry x + uptoBulkEntries r
def uptoBulkEntry {H : Type} : Lit × DataW H → Nat
  | (.string bytes, d) => bytes.length + uptoBulk d + 1
  | (_, d) => uptoBulk d + 1
 end
def uptoSmall : (H : Type) → List (DataW H) → Bool := fun _ ds => decide (uptoBulkAll ds ≤ 1048576)
def OpenSpec.upto (s : _root_.Go.ChangeSpec) : _root_.Go.OpenSpec := { _root_.Go.OpenSpec.ofChange s with cond := some uptoSmall }

/-- 'laws.FnExactFamilySizes', WHERE WHAT IT READS IS OF BULK AT MOST 1048576: true; the input reads as it did. -/
def fnExactFamilySizesUptoRow : OpenClaim := { program := "ytlfbpaphjkbcmaa", sum := "943f2a2dd3448d73d08450fe1d728a6f6c68125d10428177f72699199ab514d6", func := "loop.example/clubsandmembers/laws.FnExactFamilySizes", spec := "fnExactFamilySizes", unfollowed := true, recurses := true, apart := false, narrowed := true }
def FnExactFamilySizesUptoSaid : Prop := fnExactFamilySizesUptoRow.holds Try.pinned (OpenSpec.upto fnExactFamilySizesSpec)

/-- 'laws.FnExactRankMeets', WHERE WHAT IT READS IS OF BULK AT MOST 1048576: true; the input reads as it did. -/
def fnExactRankMeetsUptoRow : OpenClaim := { program := "ytlfbpaphjkbcmaa", sum := "943f2a2dd3448d73d08450fe1d728a6f6c68125d10428177f72699199ab514d6", func := "loop.example/clubsandmembers/laws.FnExactRankMeets", spec := "fnExactRankMeets", unfollowed := true, recurses := true, apart := false, narrowed := true }
def FnExactRankMeetsUptoSaid : Prop := fnExactRankMeetsUptoRow.holds Try.pinned (OpenSpec.upto fnExactRankMeetsSpec)

/-- 'laws.FnExactRankSpread', WHERE WHAT IT READS IS OF BULK AT MOST 1048576: true; the input reads as it did. -/
def fnExactRankSpreadUptoRow : OpenClaim := { program := "ytlfbpaphjkbcmaa", sum := "943f2a2dd3448d73d08450fe1d728a6f6c68125d10428177f72699199ab514d6", func := "loop.example/clubsandmembers/laws.FnExactRankSpread", spec := "fnExactRankSpread", unfollowed := true, recurses := true, apart := false, narrowed := true }
def FnExactRankSpreadUptoSaid : Prop := fnExactRankSpreadUptoRow.holds Try.pinned (OpenSpec.upto fnExactRankSpreadSpec)

/-- 'laws.FnExactRankOdd', WHERE WHAT IT READS IS OF BULK AT MOST 1048576: true; the input reads as it did. -/
def fnExactRankOddUptoRow : OpenClaim := { program := "ytlfbpaphjkbcmaa", sum := "943f2a2dd3448d73d08450fe1d728a6f6c68125d10428177f72699199ab514d6", func := "loop.example/clubsandmembers/laws.FnExactRankOdd", spec := "fnExactRankOdd", unfollowed := true, recurses := true, apart := false, narrowed := true }
def FnExactRankOddUptoSaid : Prop := fnExactRankOddUptoRow.holds Try.pinned (OpenSpec.upto fnExactRankOddSpec)

/-- 'laws.FnExactRankSame', WHERE WHAT IT READS IS OF BULK AT MOST 1048576: true; the input reads as it did. -/
def fnExactRankSameUptoRow : OpenClaim := { program := "ytlfbpaphjkbcmaa", sum := "943f2a2dd3448d73d08450fe1d728a6f6c68125d10428177f72699199ab514d6", func := "loop.example/clubsandmembers/laws.FnExactRankSame", spec := "fnExactRankSame", unfollowed := true, recurses := true, apart := false, narrowed := true }
def FnExactRankSameUptoSaid : Prop := fnExactRankSameUptoRow.holds Try.pinned (OpenSpec.upto fnExactRankSameSpec)

end Rows
end Go.Proofs.Ytlfbpaphjkbcmaa
