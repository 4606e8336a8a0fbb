/-
  No cell of these rows narrows 'for every input' (looked for: loops, veiled, ifaces, maps, wideKeys, modest, calm, conditions, laid).
  DERIVED. THE GIVEN ROWS OF THIS SEAT. 5 by the template 'for every input the law returns true; each argument reads behind the call as it read before'; 0 by the template 'total and deterministic' (their statements: YtkmaebkfmljiiaaTotals.lean).
  GIVEN WITH THE SEED: the statements are not yours to turn. If you find one false, say at which input.
  Laid BY PROGRAM, IN A SANDBOX (cutbox-rows.mjs): the forced cells as the released guide's own fill.sh prints them over the translation 4b5b8899372f9ada… (all of the seat's roots in one cut). By AI agents, Wed Nov 11 2026. No macro, syntax, notation, axiom, sorry.
-/
import Derived.Test.YtkmaebkfmljiiaaChecked
import GoSem.Claim
import GoSem.ClaimJoined
import GoSem.ClaimMapViews
import Derived.JoinedTies
import Derived.KernelRfl
namespace Go.Proofs.Ytkmaebkfmljiiaa
/- THE CELL 'sum', in the pinned program and in every row, IS THE sha256 OF THE DUMP (.gsa) THAT YtkmaebkfmljiiaaProg.lean LOADS. Nothing in Lean hashes anything: it is a label: what it is worth is what the hold of that sum in a sandbox is worth. -/
noncomputable def Try.pinned : Pinned := { name := "ytkmaebkfmljiiaa", sum := "4b5b8899372f9ada3a1fa5ce4b152bc0a85d3ef6986dac74b881df629abf94fc", checked := Try.checked }
namespace Rows
def none {H : Type} : Left H := { results := [], args := [] }

/-- 'laws.FnSizes': WHATEVER THE INPUT: true; the input reads as it did. -/
def fnSizesSpec : ChangeSpec := { name := "fnSizes", fn := fun _ => fun
  | [d] => { results := [.lit (.bool true)], args := [d] }
  | _ => none }
def fnSizesRow : OpenClaim := { program := "ytkmaebkfmljiiaa", sum := "4b5b8899372f9ada3a1fa5ce4b152bc0a85d3ef6986dac74b881df629abf94fc", func := "loop.example/clubsandmembers/laws.FnSizes", spec := "fnSizes", unfollowed := true, recurses := true, apart := false }
def FnSizesSaid : Prop := fnSizesRow.holds Try.pinned (OpenSpec.ofChange fnSizesSpec)

/-- ITS FALSE NEIGHBOUR: 'it returns false'. Refute it at one input. -/
def fnSizesWrong : ChangeSpec := { name := "fnSizes", fn := fun _ => fun
  | [d] => { results := [.lit (.bool false)], args := [d] }
  | _ => none }
def FnSizesWrongFalsely : Prop := fnSizesRow.holds Try.pinned (OpenSpec.ofChange fnSizesWrong)

/-- 'laws.FnLeast': WHATEVER THE INPUT: true; the input reads as it did. -/
def fnLeastSpec : ChangeSpec := { name := "fnLeast", fn := fun _ => fun
  | [d] => { results := [.lit (.bool true)], args := [d] }
  | _ => none }
def fnLeastRow : OpenClaim := { program := "ytkmaebkfmljiiaa", sum := "4b5b8899372f9ada3a1fa5ce4b152bc0a85d3ef6986dac74b881df629abf94fc", func := "loop.example/clubsandmembers/laws.FnLeast", spec := "fnLeast", unfollowed := true, recurses := true, apart := false }
def FnLeastSaid : Prop := fnLeastRow.holds Try.pinned (OpenSpec.ofChange fnLeastSpec)

/-- ITS FALSE NEIGHBOUR: 'it returns false'. Refute it at one input. -/
def fnLeastWrong : ChangeSpec := { name := "fnLeast", fn := fun _ => fun
  | [d] => { results := [.lit (.bool false)], args := [d] }
  | _ => none }
def FnLeastWrongFalsely : Prop := fnLeastRow.holds Try.pinned (OpenSpec.ofChange fnLeastWrong)

/-- 'laws.FnGreatest': WHATEVER THE INPUT: true; the input reads as it did. -/
def fnGreatestSpec : ChangeSpec := { name := "fnGreatest", fn := fun _ => fun
  | [d] => { results := [.lit (.bool true)], args := [d] }
  | _ => none }
def fnGreatestRow : OpenClaim := { program := "ytkmaebkfmljiiaa", sum := "4b5b8899372f9ada3a1fa5ce4b152bc0a85d3ef6986dac74b881df629abf94fc", func := "loop.example/clubsandmembers/laws.FnGreatest", spec := "fnGreatest", unfollowed := true, recurses := true, apart := false }
def FnGreatestSaid : Prop := fnGreatestRow.holds Try.pinned (OpenSpec.ofChange fnGreatestSpec)

/-- ITS FALSE NEIGHBOUR: 'it returns false'. Refute it at one input. -/
def fnGreatestWrong : ChangeSpec := { name := "fnGreatest", fn := fun _ => fun
  | [d] => { results := [.lit (.bool false)], args := [d] }
  | _ => none }
def FnGreatestWrongFalsely : Prop := fnGreatestRow.holds Try.pinned (OpenSpec.ofChange fnGreatestWrong)

/-- 'laws.FnExactFamilyLeast': WHATEVER THE INPUT: true; the input reads as it did. -/
def fnExactFamilyLeastSpec : ChangeSpec := { name := "fnExactFamilyLeast", fn := fun _ => fun
  | [d] => { results := [.lit (.bool true)], args := [d] }
  | _ => none }
def fnExactFamilyLeastRow : OpenClaim := { program := "ytkmaebkfmljiiaa", sum := "4b5b8899372f9ada3a1fa5ce4b152bc0a85d3ef6986dac74b881df629abf94fc", func := "loop.example/clubsandmembers/laws.FnExactFamilyLeast", spec := "fnExactFamilyLeast", unfollowed := true, recurses := true, apart := false }
def FnExactFamilyLeastSaid : Prop := fnExactFamilyLeastRow.holds Try.pinned (OpenSpec.ofChange fnExactFamilyLeastSpec)

/-- ITS FALSE NEIGHBOUR: 'it returns false'. Refute it at one input. -/
def fnExactFamilyLeastWrong : ChangeSpec := { name := "fnExactFamilyLeast", fn := fun _ => fun
  | [d] => { results := [.lit (.bool false)], args := [d] }
  | _ => none }
def FnExactFamilyLeastWrongFalsely : Prop := fnExactFamilyLeastRow.holds Try.pinned (OpenSpec.ofChange fnExactFamilyLeastWrong)

/-- 'laws.FnExactFamilyOther': WHATEVER THE INPUT: true; the input reads as it did. -/
def fnExactFamilyOtherSpec : ChangeSpec := { name := "fnExactFamilyOther", fn := fun _ => fun
  | [d] => { results := [.lit (.bool true)], args := [d] }
  | _ => none }
def fnExactFamilyOtherRow : OpenClaim := { program := "ytkmaebkfmljiiaa", sum := "4b5b8899372f9ada3a1fa5ce4b152bc0a85d3ef6986dac74b881df629abf94fc", func := "loop.example/clubsandmembers/laws.FnExactFamilyOther", spec := "fnExactFamilyOther", unfollowed := true, recurses := true, apart := false }
def FnExactFamilyOtherSaid : Prop := fnExactFamilyOtherRow.holds Try.pinned (OpenSpec.ofChange fnExactFamilyOtherSpec)

/-- ITS FALSE NEIGHBOUR: 'it returns false'. Refute it at one input. -/
def fnExactFamilyOtherWrong : ChangeSpec := { name := "fnExactFamilyOther", fn := fun _ => fun
  | [d] => { results := [.lit (.bool false)], args := [d] }
  | _ => none }
def FnExactFamilyOtherWrongFalsely : Prop := fnExactFamilyOtherRow.holds Try.pinned (OpenSpec.ofChange fnExactFamilyOtherWrong)

/- THE SECOND FORM. 'bulk': how many values and letters a reading holds, each counted each time it is reached (what is shared counts as often as it is met; a slice's spare places count too). A statement '..UptoSaid' is the law's where the arguments, and the package variables that the reading takes, are together of bulk at most 1048576: NARROWER than '..Said'. Prove '..Said' where nothing that the law and all that it calls make is longer than what came in: it says more and counts as full. Else prove '..UptoSaid'. A law counts once. -/
mutual
def uptoBulk {H : Type} : DataW H → Nat
  | .lit (.string bytes) => bytes.length + 1
  | .lit _ => 1
  | .nil => 1
  | .ptr d => uptoBulk d + 1
  | .slice elems spare => uptoBulkAll elems + uptoBulkAll spare + 1
  | .agg parts => uptoBulkAll parts + 1
  | .iface _ d => uptoBulk d + 1
  | .map entries => uptoBulkEntries entries + 1
  | .held _ => 1
def uptoBulkAll {H : Type} : List (DataW H) → Nat
  | [] => 0
  | d :: r => uptoBulk d + uptoBulkAll r
def uptoBulkEntries {H : Type} : List (Lit × DataW H) → Nat
  | [] => 0
  | x :: r => uptoBulkEntry x + uptoBulkEntries r
def uptoBulkEntry {H : Type} : Lit × DataW H → Nat
  | (.string bytes, d) => bytes.length + uptoBulk d + 1
  | (_, d) => uptoBulk d + 1
 end
def uptoSmall : (H : Type) → List (DataW H) → Bool := fun _ ds => decide (uptoBulkAll ds ≤ 1048576)
def OpenSpec.upto (s : _root_.Go.ChangeSpec) : _root_.Go.OpenSpec := { _root_.Go.OpenSpec.ofChange s with cond := some uptoSmall }

/-- 'laws.FnSizes', WHERE WHAT IT READS IS OF BULK AT MOST 1048576: true; the input reads as it did. -/
def fnSizesUptoRow : OpenClaim := { program := "ytkmaebkfmljiiaa", sum := "4b5b8899372f9ada3a1fa5ce4b152bc0a85d3ef6986dac74b881df629abf94fc", func := "loop.example/clubsandmembers/laws.FnSizes", spec := "fnSizes", unfollowed := true, recurses := true, apart := false, narrowed := true }
def FnSizesUptoSaid : Prop := fnSizesUptoRow.holds Try.pinned (OpenSpec.upto fnSizesSpec)

/-- 'laws.FnLeast', WHERE WHAT IT READS IS OF BULK AT MOST 1048576: true; the input reads as it did. -/
def fnLeastUptoRow : OpenClaim := { program := "ytkmaebkfmljiiaa", sum := "4b5b8899372f9ada3a1fa5ce4b152bc0a85d3ef6986dac74b881df629abf94fc", func := "loop.example/clubsandmembers/laws.FnLeast", spec := "fnLeast", unfollowed := true, recurses := true, apart := false, narrowed := true }
def FnLeastUptoSaid : Prop := fnLeastUptoRow.holds Try.pinned (OpenSpec.upto fnLeastSpec)

/-- 'laws.FnGreatest', WHERE WHAT IT READS IS OF BULK AT MOST 1048576: true; the input reads as it did. -/
def fnGreatestUptoRow : OpenClaim := { program := "ytkmaebkfmljiiaa", sum := "4b5b8899372f9ada3a1fa5ce4b152bc0a85d3ef6986dac74b881df629abf94fc", func := "loop.example/clubsandmembers/laws.FnGreatest", spec := "fnGreatest", unfollowed := true, recurses := true, apart := false, narrowed := true }
def FnGreatestUptoSaid : Prop := fnGreatestUptoRow.holds Try.pinned (OpenSpec.upto fnGreatestSpec)

/-- 'laws.FnExactFamilyLeast', WHERE WHAT IT READS IS OF BULK AT MOST 1048576: true; the input reads as it did. -/
def fnExactFamilyLeastUptoRow : OpenClaim := { program := "ytkmaebkfmljiiaa", sum := "4b5b8899372f9ada3a1fa5ce4b152bc0a85d3ef6986dac74b881df629abf94fc", func := "loop.example/clubsandmembers/laws.FnExactFamilyLeast", spec := "fnExactFamilyLeast", unfollowed := true, recurses := true, apart := false, narrowed := true }
def FnExactFamilyLeastUptoSaid : Prop := fnExactFamilyLeastUptoRow.holds Try.pinned (OpenSpec.upto fnExactFamilyLeastSpec)

/-- 'laws.FnExactFamilyOther', WHERE WHAT IT READS IS OF BULK AT MOST 1048576: true; the input reads as it did. -/
def fnExactFamilyOtherUptoRow : OpenClaim := { program := "ytkmaebkfmljiiaa", sum := "4b5b8899372f9ada3a1fa5ce4b152bc0a85d3ef6986dac74b881df629abf94fc", func := "loop.example/clubsandmembers/laws.FnExactFamilyOther", spec := "fnExactFamilyOther", unfollowed := true, recurses := true, apart := false, narrowed := true }
def FnExactFamilyOtherUptoSaid : Prop := fnExactFamilyOtherUptoRow.holds Try.pinned (OpenSpec.upto fnExactFamilyOtherSpec)

end Rows
end Go.Proofs.Ytkmaebkfmljiiaa
