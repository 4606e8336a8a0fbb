/-
  No cell of these rows narrows 'for every input' (looked for: loops, veiled, ifaces, maps, wideKeys, modest, calm, conditions, laid).
  DERIVED. THE GIVEN ROWS OF THIS SEAT. 12 by the template 'for every input the law returns true; each argument reads behind the call as it read before'; 0 by the template 'total and deterministic' (their statements: YticgojhljmgplaaTotals.lean).
  GIVEN WITH THE SEED: the statements are not yours to turn. If you find one false, say at which input.
  Laid BY PROGRAM, IN A SANDBOX (cutbox-rows.mjs): the forced cells as the released guide's own fill.sh prints them over the translation 105765feba0a90ab… (all of the seat's roots in one cut). By AI agents, Wed Nov 11 2026. No macro, syntax, notation, axiom, sorry.
-/
import Derived.Test.YticgojhljmgplaaChecked
import GoSem.Claim
import GoSem.ClaimJoined
import GoSem.ClaimMapViews
import Derived.JoinedTies
import Derived.KernelRfl
namespace Go.Proofs.Yticgojhljmgplaa
/- THE CELL 'sum', in the pinned program and in every row, IS THE sha256 OF THE DUMP (.gsa) THAT YticgojhljmgplaaProg.lean LOADS. Nothing in Lean hashes anything: it is a label: what it is worth is what the hold of that sum in a sandbox is worth. -/
noncomputable def Try.pinned : Pinned := { name := "yticgojhljmgplaa", sum := "105765feba0a90abbbdf21b18a946c16cb7a3c0b64e571a63b354d966ee06181", checked := Try.checked }
namespace Rows
def none {H : Type} : Left H := { results := [], args := [] }

/-- 'laws.FnLeast': WHATEVER THE INPUT: true; the input reads as it did. -/
def fnLeastSpec : ChangeSpec := { name := "fnLeast", fn := fun _ => fun
  | [d] => { results := [.lit (.bool true)], args := [d] }
  | _ => none }
def fnLeastRow : OpenClaim := { program := "yticgojhljmgplaa", sum := "105765feba0a90abbbdf21b18a946c16cb7a3c0b64e571a63b354d966ee06181", func := "loop.example/clubsandmembers/laws.FnLeast", spec := "fnLeast", unfollowed := true, recurses := true, apart := false }
def FnLeastSaid : Prop := fnLeastRow.holds Try.pinned (OpenSpec.ofChange fnLeastSpec)

/-- ITS FALSE NEIGHBOUR: 'it returns false'. Refute it at one input. -/
def fnLeastWrong : ChangeSpec := { name := "fnLeast", fn := fun _ => fun
  | [d] => { results := [.lit (.bool false)], args := [d] }
  | _ => none }
def FnLeastWrongFalsely : Prop := fnLeastRow.holds Try.pinned (OpenSpec.ofChange fnLeastWrong)

/-- 'laws.FnExactFamilyIn': WHATEVER THE INPUT: true; the input reads as it did. -/
def fnExactFamilyInSpec : ChangeSpec := { name := "fnExactFamilyIn", fn := fun _ => fun
  | [d] => { results := [.lit (.bool true)], args := [d] }
  | _ => none }
def fnExactFamilyInRow : OpenClaim := { program := "yticgojhljmgplaa", sum := "105765feba0a90abbbdf21b18a946c16cb7a3c0b64e571a63b354d966ee06181", func := "loop.example/clubsandmembers/laws.FnExactFamilyIn", spec := "fnExactFamilyIn", apart := false }
def FnExactFamilyInSaid : Prop := fnExactFamilyInRow.holds Try.pinned (OpenSpec.ofChange fnExactFamilyInSpec)

/-- ITS FALSE NEIGHBOUR: 'it returns false'. Refute it at one input. -/
def fnExactFamilyInWrong : ChangeSpec := { name := "fnExactFamilyIn", fn := fun _ => fun
  | [d] => { results := [.lit (.bool false)], args := [d] }
  | _ => none }
def FnExactFamilyInWrongFalsely : Prop := fnExactFamilyInRow.holds Try.pinned (OpenSpec.ofChange fnExactFamilyInWrong)

/-- 'laws.FnExactFamilySizes': WHATEVER THE INPUT: true; the input reads as it did. -/
def fnExactFamilySizesSpec : ChangeSpec := { name := "fnExactFamilySizes", fn := fun _ => fun
  | [d] => { results := [.lit (.bool true)], args := [d] }
  | _ => none }
def fnExactFamilySizesRow : OpenClaim := { program := "yticgojhljmgplaa", sum := "105765feba0a90abbbdf21b18a946c16cb7a3c0b64e571a63b354d966ee06181", func := "loop.example/clubsandmembers/laws.FnExactFamilySizes", spec := "fnExactFamilySizes", unfollowed := true, recurses := true, apart := false }
def FnExactFamilySizesSaid : Prop := fnExactFamilySizesRow.holds Try.pinned (OpenSpec.ofChange fnExactFamilySizesSpec)

/-- ITS FALSE NEIGHBOUR: 'it returns false'. Refute it at one input. -/
def fnExactFamilySizesWrong : ChangeSpec := { name := "fnExactFamilySizes", fn := fun _ => fun
  | [d] => { results := [.lit (.bool false)], args := [d] }
  | _ => none }
def FnExactFamilySizesWrongFalsely : Prop := fnExactFamilySizesRow.holds Try.pinned (OpenSpec.ofChange fnExactFamilySizesWrong)

/-- 'laws.FnExactFamilyMeet': WHATEVER THE INPUT: true; the input reads as it did. -/
def fnExactFamilyMeetSpec : ChangeSpec := { name := "fnExactFamilyMeet", fn := fun _ => fun
  | [d1, d2] => { results := [.lit (.bool true)], args := [d1, d2] }
  | _ => none }
def fnExactFamilyMeetRow : OpenClaim := { program := "yticgojhljmgplaa", sum := "105765feba0a90abbbdf21b18a946c16cb7a3c0b64e571a63b354d966ee06181", func := "loop.example/clubsandmembers/laws.FnExactFamilyMeet", spec := "fnExactFamilyMeet", unfollowed := true, recurses := true, apart := false }
def FnExactFamilyMeetSaid : Prop := fnExactFamilyMeetRow.holds Try.pinned (OpenSpec.ofChange fnExactFamilyMeetSpec)

/-- ITS FALSE NEIGHBOUR: 'it returns false'. Refute it at one input. -/
def fnExactFamilyMeetWrong : ChangeSpec := { name := "fnExactFamilyMeet", fn := fun _ => fun
  | [d1, d2] => { results := [.lit (.bool false)], args := [d1, d2] }
  | _ => none }
def FnExactFamilyMeetWrongFalsely : Prop := fnExactFamilyMeetRow.holds Try.pinned (OpenSpec.ofChange fnExactFamilyMeetWrong)

/-- 'laws.FnExactFamilyPut': WHATEVER THE INPUT: true; the input reads as it did. -/
def fnExactFamilyPutSpec : ChangeSpec := { name := "fnExactFamilyPut", fn := fun _ => fun
  | [d1, d2] => { results := [.lit (.bool true)], args := [d1, d2] }
  | _ => none }
def fnExactFamilyPutRow : OpenClaim := { program := "yticgojhljmgplaa", sum := "105765feba0a90abbbdf21b18a946c16cb7a3c0b64e571a63b354d966ee06181", func := "loop.example/clubsandmembers/laws.FnExactFamilyPut", spec := "fnExactFamilyPut", apart := false }
def FnExactFamilyPutSaid : Prop := fnExactFamilyPutRow.holds Try.pinned (OpenSpec.ofChange fnExactFamilyPutSpec)

/-- ITS FALSE NEIGHBOUR: 'it returns false'. Refute it at one input. -/
def fnExactFamilyPutWrong : ChangeSpec := { name := "fnExactFamilyPut", fn := fun _ => fun
  | [d1, d2] => { results := [.lit (.bool false)], args := [d1, d2] }
  | _ => none }
def FnExactFamilyPutWrongFalsely : Prop := fnExactFamilyPutRow.holds Try.pinned (OpenSpec.ofChange fnExactFamilyPutWrong)

/-- 'laws.FnExactFamilyDrop': WHATEVER THE INPUT: true; the input reads as it did. -/
def fnExactFamilyDropSpec : ChangeSpec := { name := "fnExactFamilyDrop", fn := fun _ => fun
  | [d1, d2] => { results := [.lit (.bool true)], args := [d1, d2] }
  | _ => none }
def fnExactFamilyDropRow : OpenClaim := { program := "yticgojhljmgplaa", sum := "105765feba0a90abbbdf21b18a946c16cb7a3c0b64e571a63b354d966ee06181", func := "loop.example/clubsandmembers/laws.FnExactFamilyDrop", spec := "fnExactFamilyDrop", apart := false }
def FnExactFamilyDropSaid : Prop := fnExactFamilyDropRow.holds Try.pinned (OpenSpec.ofChange fnExactFamilyDropSpec)

/-- ITS FALSE NEIGHBOUR: 'it returns false'. Refute it at one input. -/
def fnExactFamilyDropWrong : ChangeSpec := { name := "fnExactFamilyDrop", fn := fun _ => fun
  | [d1, d2] => { results := [.lit (.bool false)], args := [d1, d2] }
  | _ => none }
def FnExactFamilyDropWrongFalsely : Prop := fnExactFamilyDropRow.holds Try.pinned (OpenSpec.ofChange fnExactFamilyDropWrong)

/-- 'laws.FnExactFamilySimple': WHATEVER THE INPUT: true; the input reads as it did. -/
def fnExactFamilySimpleSpec : ChangeSpec := { name := "fnExactFamilySimple", fn := fun _ => fun
  | [d] => { results := [.lit (.bool true)], args := [d] }
  | _ => none }
def fnExactFamilySimpleRow : OpenClaim := { program := "yticgojhljmgplaa", sum := "105765feba0a90abbbdf21b18a946c16cb7a3c0b64e571a63b354d966ee06181", func := "loop.example/clubsandmembers/laws.FnExactFamilySimple", spec := "fnExactFamilySimple", unfollowed := true, recurses := true, apart := false }
def FnExactFamilySimpleSaid : Prop := fnExactFamilySimpleRow.holds Try.pinned (OpenSpec.ofChange fnExactFamilySimpleSpec)

/-- ITS FALSE NEIGHBOUR: 'it returns false'. Refute it at one input. -/
def fnExactFamilySimpleWrong : ChangeSpec := { name := "fnExactFamilySimple", fn := fun _ => fun
  | [d] => { results := [.lit (.bool false)], args := [d] }
  | _ => none }
def FnExactFamilySimpleWrongFalsely : Prop := fnExactFamilySimpleRow.holds Try.pinned (OpenSpec.ofChange fnExactFamilySimpleWrong)

/-- 'laws.FnExactFamilyLeast': WHATEVER THE INPUT: true; the input reads as it did. -/
def fnExactFamilyLeastSpec : ChangeSpec := { name := "fnExactFamilyLeast", fn := fun _ => fun
  | [d] => { results := [.lit (.bool true)], args := [d] }
  | _ => none }
def fnExactFamilyLeastRow : OpenClaim := { program := "yticgojhljmgplaa", sum := "105765feba0a90abbbdf21b18a946c16cb7a3c0b64e571a63b354d966ee06181", func := "loop.example/clubsandmembers/laws.FnExactFamilyLeast", spec := "fnExactFamilyLeast", unfollowed := true, recurses := true, apart := false }
def FnExactFamilyLeastSaid : Prop := fnExactFamilyLeastRow.holds Try.pinned (OpenSpec.ofChange fnExactFamilyLeastSpec)

/-- ITS FALSE NEIGHBOUR: 'it returns false'. Refute it at one input. -/
def fnExactFamilyLeastWrong : ChangeSpec := { name := "fnExactFamilyLeast", fn := fun _ => fun
  | [d] => { results := [.lit (.bool false)], args := [d] }
  | _ => none }
def FnExactFamilyLeastWrongFalsely : Prop := fnExactFamilyLeastRow.holds Try.pinned (OpenSpec.ofChange fnExactFamilyLeastWrong)

/-- 'laws.FnExactFamilyGreatest': WHATEVER THE INPUT: true; the input reads as it did. -/
def fnExactFamilyGreatestSpec : ChangeSpec := { name := "fnExactFamilyGreatest", fn := fun _ => fun
  | [d] => { results := [.lit (.bool true)], args := [d] }
  | _ => none }
def fnExactFamilyGreatestRow : OpenClaim := { program := "yticgojhljmgplaa", sum := "105765feba0a90abbbdf21b18a946c16cb7a3c0b64e571a63b354d966ee06181", func := "loop.example/clubsandmembers/laws.FnExactFamilyGreatest", spec := "fnExactFamilyGreatest", unfollowed := true, recurses := true, apart := false }
def FnExactFamilyGreatestSaid : Prop := fnExactFamilyGreatestRow.holds Try.pinned (OpenSpec.ofChange fnExactFamilyGreatestSpec)

/-- ITS FALSE NEIGHBOUR: 'it returns false'. Refute it at one input. -/
def fnExactFamilyGreatestWrong : ChangeSpec := { name := "fnExactFamilyGreatest", fn := fun _ => fun
  | [d] => { results := [.lit (.bool false)], args := [d] }
  | _ => none }
def FnExactFamilyGreatestWrongFalsely : Prop := fnExactFamilyGreatestRow.holds Try.pinned (OpenSpec.ofChange fnExactFamilyGreatestWrong)

/-- 'laws.FnExactFamilyOther': WHATEVER THE INPUT: true; the input reads as it did. -/
def fnExactFamilyOtherSpec : ChangeSpec := { name := "fnExactFamilyOther", fn := fun _ => fun
  | [d] => { results := [.lit (.bool true)], args := [d] }
  | _ => none }
def fnExactFamilyOtherRow : OpenClaim := { program := "yticgojhljmgplaa", sum := "105765feba0a90abbbdf21b18a946c16cb7a3c0b64e571a63b354d966ee06181", func := "loop.example/clubsandmembers/laws.FnExactFamilyOther", spec := "fnExactFamilyOther", unfollowed := true, recurses := true, apart := false }
def FnExactFamilyOtherSaid : Prop := fnExactFamilyOtherRow.holds Try.pinned (OpenSpec.ofChange fnExactFamilyOtherSpec)

/-- ITS FALSE NEIGHBOUR: 'it returns false'. Refute it at one input. -/
def fnExactFamilyOtherWrong : ChangeSpec := { name := "fnExactFamilyOther", fn := fun _ => fun
  | [d] => { results := [.lit (.bool false)], args := [d] }
  | _ => none }
def FnExactFamilyOtherWrongFalsely : Prop := fnExactFamilyOtherRow.holds Try.pinned (OpenSpec.ofChange fnExactFamilyOtherWrong)

/-- 'laws.FnExactFamilyAll': WHATEVER THE INPUT: true; the input reads as it did. -/
def fnExactFamilyAllSpec : ChangeSpec := { name := "fnExactFamilyAll", fn := fun _ => fun
  | [d] => { results := [.lit (.bool true)], args := [d] }
  | _ => none }
def fnExactFamilyAllRow : OpenClaim := { program := "yticgojhljmgplaa", sum := "105765feba0a90abbbdf21b18a946c16cb7a3c0b64e571a63b354d966ee06181", func := "loop.example/clubsandmembers/laws.FnExactFamilyAll", spec := "fnExactFamilyAll", unfollowed := true, recurses := true, apart := false }
def FnExactFamilyAllSaid : Prop := fnExactFamilyAllRow.holds Try.pinned (OpenSpec.ofChange fnExactFamilyAllSpec)

/-- ITS FALSE NEIGHBOUR: 'it returns false'. Refute it at one input. -/
def fnExactFamilyAllWrong : ChangeSpec := { name := "fnExactFamilyAll", fn := fun _ => fun
  | [d] => { results := [.lit (.bool false)], args := [d] }
  | _ => none }
def FnExactFamilyAllWrongFalsely : Prop := fnExactFamilyAllRow.holds Try.pinned (OpenSpec.ofChange fnExactFamilyAllWrong)

/-- 'laws.FnExactFamilyCommon': WHATEVER THE INPUT: true; the input reads as it did. -/
def fnExactFamilyCommonSpec : ChangeSpec := { name := "fnExactFamilyCommon", fn := fun _ => fun
  | [d] => { results := [.lit (.bool true)], args := [d] }
  | _ => none }
def fnExactFamilyCommonRow : OpenClaim := { program := "yticgojhljmgplaa", sum := "105765feba0a90abbbdf21b18a946c16cb7a3c0b64e571a63b354d966ee06181", func := "loop.example/clubsandmembers/laws.FnExactFamilyCommon", spec := "fnExactFamilyCommon", unfollowed := true, recurses := true, apart := false }
def FnExactFamilyCommonSaid : Prop := fnExactFamilyCommonRow.holds Try.pinned (OpenSpec.ofChange fnExactFamilyCommonSpec)

/-- ITS FALSE NEIGHBOUR: 'it returns false'. Refute it at one input. -/
def fnExactFamilyCommonWrong : ChangeSpec := { name := "fnExactFamilyCommon", fn := fun _ => fun
  | [d] => { results := [.lit (.bool false)], args := [d] }
  | _ => none }
def FnExactFamilyCommonWrongFalsely : Prop := fnExactFamilyCommonRow.holds Try.pinned (OpenSpec.ofChange fnExactFamilyCommonWrong)

/- THE SECOND FORM. 'bulk': how many values and letters a reading holds, each counted each time it is reached (what is shared counts as often as it is met; a slice's spare places count too). A statement '..UptoSaid' is the law's where the arguments, and the package variables that the reading takes, are together of bulk at most 1048576: NARROWER than '..Said'. Prove '..Said' where nothing that the law and all that it calls make is longer than what came in: it says more and counts as full. Else prove '..UptoSaid'. A law counts once. -/
mutual
def uptoBulk {H : Type} : DataW H → Nat
  | .lit (.string bytes) => bytes.length + 1
  | .lit _ => 1
  | .nil => 1
  | .ptr d => uptoBulk d + 1
  | .slice elems spare => uptoBulkAll elems + uptoBulkAll spare + 1
  | .agg parts => uptoBulkAll parts + 1
  | .iface _ d => uptoBulk d + 1
  | .map entries => uptoBulkEntries entries + 1
  | .held _ => 1
def uptoBulkAll {H : Type} : List (DataW H) → Nat
  | [] => 0
  | d :: r => uptoBulk d + uptoBulkAll r
def uptoBulkEntries {H : Type} : List (Lit × DataW H) → Nat
  | [] => 0
  | x :: r => uptoBulkEntry x + uptoBulkEntries r
def uptoBulkEntry {H : Type} : Lit × DataW H → Nat
  | (.string bytes, d) => bytes.length + uptoBulk d + 1
  | (_, d) => uptoBulk d + 1
 end
def uptoSmall : (H : Type) → List (DataW H) → Bool := fun _ ds => decide (uptoBulkAll ds ≤ 1048576)
def OpenSpec.upto (s : _root_.Go.ChangeSpec) : _root_.Go.OpenSpec := { _root_.Go.OpenSpec.ofChange s with cond := some uptoSmall }

/-- 'laws.FnLeast', WHERE WHAT IT READS IS OF BULK AT MOST 1048576: true; the input reads as it did. -/
def fnLeastUptoRow : OpenClaim := { program := "yticgojhljmgplaa", sum := "105765feba0a90abbbdf21b18a946c16cb7a3c0b64e571a63b354d966ee06181", func := "loop.example/clubsandmembers/laws.FnLeast", spec := "fnLeast", unfollowed := true, recurses := true, apart := false, narrowed := true }
def FnLeastUptoSaid : Prop := fnLeastUptoRow.holds Try.pinned (OpenSpec.upto fnLeastSpec)

/-- 'laws.FnExactFamilyIn', WHERE WHAT IT READS IS OF BULK AT MOST 1048576: true; the input reads as it did. -/
def fnExactFamilyInUptoRow : OpenClaim := { program := "yticgojhljmgplaa", sum := "105765feba0a90abbbdf21b18a946c16cb7a3c0b64e571a63b354d966ee06181", func := "loop.example/clubsandmembers/laws.FnExactFamilyIn", spec := "fnExactFamilyIn", apart := false, narrowed := true }
def FnExactFamilyInUptoSaid : Prop := fnExactFamilyInUptoRow.holds Try.pinned (OpenSpec.upto fnExactFamilyInSpec)

/-- 'laws.FnExactFamilySizes', WHERE WHAT IT READS IS OF BULK AT MOST 1048576: true; the input reads as it did. -/
def fnExactFamilySizesUptoRow : OpenClaim := { program := "yticgojhljmgplaa", sum := "105765feba0a90abbbdf21b18a946c16cb7a3c0b64e571a63b354d966ee06181", func := "loop.example/clubsandmembers/laws.FnExactFamilySizes", spec := "fnExactFamilySizes", unfollowed := true, recurses := true, apart := false, narrowed := true }
def FnExactFamilySizesUptoSaid : Prop := fnExactFamilySizesUptoRow.holds Try.pinned (OpenSpec.upto fnExactFamilySizesSpec)

/-- 'laws.FnExactFamilyMeet', WHERE WHAT IT READS IS OF BULK AT MOST 1048576: true; the input reads as it did. -/
def fnExactFamilyMeetUptoRow : OpenClaim := { program := "yticgojhljmgplaa", sum := "105765feba0a90abbbdf21b18a946c16cb7a3c0b64e571a63b354d966ee06181", func := "loop.example/clubsandmembers/laws.FnExactFamilyMeet", spec := "fnExactFamilyMeet", unfollowed := true, recurses := true, apart := false, narrowed := true }
def FnExactFamilyMeetUptoSaid : Prop := fnExactFamilyMeetUptoRow.holds Try.pinned (OpenSpec.upto fnExactFamilyMeetSpec)

/-- 'laws.FnExactFamilyPut', WHERE WHAT IT READS IS OF BULK AT MOST 1048576: true; the input reads as it did. -/
def fnExactFamilyPutUptoRow : OpenClaim := { program := "yticgojhljmgplaa", sum := "105765feba0a90abbbdf21b18a946c16cb7a3c0b64e571a63b354d966ee06181", func := "loop.example/clubsandmembers/laws.FnExactFamilyPut", spec := "fnExactFamilyPut", apart := false, narrowed := true }
def FnExactFamilyPutUptoSaid : Prop := fnExactFamilyPutUptoRow.holds Try.pinned (OpenSpec.upto fnExactFamilyPutSpec)

/-- 'laws.FnExactFamilyDrop', WHERE WHAT IT READS IS OF BULK AT MOST 1048576: true; the input reads as it did. -/
def fnExactFamilyDropUptoRow : OpenClaim := { program := "yticgojhljmgplaa", sum := "105765feba0a90abbbdf21b18a946c16cb7a3c0b64e571a63b354d966ee06181", func := "loop.example/clubsandmembers/laws.FnExactFamilyDrop", spec := "fnExactFamilyDrop", apart := false, narrowed := true }
def FnExactFamilyDropUptoSaid : Prop := fnExactFamilyDropUptoRow.holds Try.pinned (OpenSpec.upto fnExactFamilyDropSpec)

/-- 'laws.FnExactFamilySimple', WHERE WHAT IT READS IS OF BULK AT MOST 1048576: true; the input reads as it did. -/
def fnExactFamilySimpleUptoRow : OpenClaim := { program := "yticgojhljmgplaa", sum := "105765feba0a90abbbdf21b18a946c16cb7a3c0b64e571a63b354d966ee06181", func := "loop.example/clubsandmembers/laws.FnExactFamilySimple", spec := "fnExactFamilySimple", unfollowed := true, recurses := true, apart := false, narrowed := true }
def FnExactFamilySimpleUptoSaid : Prop := fnExactFamilySimpleUptoRow.holds Try.pinned (OpenSpec.upto fnExactFamilySimpleSpec)

/-- 'laws.FnExactFamilyLeast', WHERE WHAT IT READS IS OF BULK AT MOST 1048576: true; the input reads as it did. -/
def fnExactFamilyLeastUptoRow : OpenClaim := { program := "yticgojhljmgplaa", sum := "105765feba0a90abbbdf21b18a946c16cb7a3c0b64e571a63b354d966ee06181", func := "loop.example/clubsandmembers/laws.FnExactFamilyLeast", spec := "fnExactFamilyLeast", unfollowed := true, recurses := true, apart := false, narrowed := true }
def FnExactFamilyLeastUptoSaid : Prop := fnExactFamilyLeastUptoRow.holds Try.pinned (OpenSpec.upto fnExactFamilyLeastSpec)

/-- 'laws.FnExactFamilyGreatest', WHERE WHAT IT READS IS OF BULK AT MOST 1048576: true; the input reads as it did. -/
def fnExactFamilyGreatestUptoRow : OpenClaim := { program := "yticgojhljmgplaa", sum := "105765feba0a90abbbdf21b18a946c16cb7a3c0b64e571a63b354d966ee06181", func := "loop.example/clubsandmembers/laws.FnExactFamilyGreatest", spec := "fnExactFamilyGreatest", unfollowed := true, recurses := true, apart := false, narrowed := true }
def FnExactFamilyGreatestUptoSaid : Prop := fnExactFamilyGreatestUptoRow.holds Try.pinned (OpenSpec.upto fnExactFamilyGreatestSpec)

/-- 'laws.FnExactFamilyOther', WHERE WHAT IT READS IS OF BULK AT MOST 1048576: true; the input reads as it did. -/
def fnExactFamilyOtherUptoRow : OpenClaim := { program := "yticgojhljmgplaa", sum := "105765feba0a90abbbdf21b18a946c16cb7a3c0b64e571a63b354d966ee06181", func := "loop.example/clubsandmembers/laws.FnExactFamilyOther", spec := "fnExactFamilyOther", unfollowed := true, recurses := true, apart := false, narrowed := true }
def FnExactFamilyOtherUptoSaid : Prop := fnExactFamilyOtherUptoRow.holds Try.pinned (OpenSpec.upto fnExactFamilyOtherSpec)

/-- 'laws.FnExactFamilyAll', WHERE WHAT IT READS IS OF BULK AT MOST 1048576: true; the input reads as it did. -/
def fnExactFamilyAllUptoRow : OpenClaim := { program := "yticgojhljmgplaa", sum := "105765feba0a90abbbdf21b18a946c16cb7a3c0b64e571a63b354d966ee06181", func := "loop.example/clubsandmembers/laws.FnExactFamilyAll", spec := "fnExactFamilyAll", unfollowed := true, recurses := true, apart := false, narrowed := true }
def FnExactFamilyAllUptoSaid : Prop := fnExactFamilyAllUptoRow.holds Try.pinned (OpenSpec.upto fnExactFamilyAllSpec)

/-- 'laws.FnExactFamilyCommon', WHERE WHAT IT READS IS OF BULK AT MOST 1048576: true; the input reads as it did. -/
def fnExactFamilyCommonUptoRow : OpenClaim := { program := "yticgojhljmgplaa", sum := "105765feba0a90abbbdf21b18a946c16cb7a3c0b64e571a63b354d966ee06181", func := "loop.example/clubsandmembers/laws.FnExactFamilyCommon", spec := "fnExactFamilyCommon", unfollowed := true, recurses := true, apart := false, narrowed := true }
def FnExactFamilyCommonUptoSaid : Prop := fnExactFamilyCommonUptoRow.holds Try.pinned (OpenSpec.upto fnExactFamilyCommonSpec)

end Rows
end Go.Proofs.Yticgojhljmgplaa
