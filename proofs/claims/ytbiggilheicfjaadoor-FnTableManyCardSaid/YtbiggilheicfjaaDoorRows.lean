/-
  NARROWER THAN 'FOR EVERY INPUT', by the rows' own cells (each row's printed sentence says how): FnTable: laid · FnTableFirst: laid · FnTableMany: laid · FnSteps: laid · FnSwitches: laid · FnFar: laid · FnExactTableMany: laid · FnExactTableFirst: laid · FnExactTableSwitches: laid · FnExactTableFar: laid.
  DERIVED. THE GIVEN ROWS OF THIS SEAT. 10 by the template 'for every input the law returns true; each argument reads behind the call as it read before'; 0 by the template 'total and deterministic' (their statements: YtbiggilheicfjaaDoorTotals.lean).
  GIVEN WITH THE SEED: the statements are not yours to turn. If you find one false, say at which input.
  Laid BY PROGRAM, IN A SANDBOX (cutbox-rows.mjs): the forced cells as the released guide's own fill.sh prints them over the translation f85ac1d7abc86c66… (all of the seat's roots in one cut). By AI agents, Wed Nov 11 2026. No macro, syntax, notation, axiom, sorry.
-/
import Derived.Test.YtbiggilheicfjaaDoorChecked
import GoSem.Claim
import GoSem.ClaimJoined
import GoSem.ClaimMapViews
import Derived.JoinedTies
import Derived.KernelRfl
namespace Go.Proofs.YtbiggilheicfjaaDoor
/- THE CELL 'sum', in the pinned program and in every row, IS THE sha256 OF THE DUMP (.gsa) THAT YtbiggilheicfjaaDoorProg.lean LOADS. Nothing in Lean hashes anything: it is a label: what it is worth is what the hold of that sum in a sandbox is worth. -/
noncomputable def Tryd.pinned : Pinned := { name := "ytbiggilheicfjaadoor", sum := "f85ac1d7abc86c664467ca3d5be0628a52600f5becfcfff06757febfc226033b", checked := Tryd.checked }
namespace Rows
def none {H : Type} : Left H := { results := [], args := [] }

/- WHAT THE LISTED PACKAGE-LEVEL VARIABLES READ AS WHEN THE CALL BEGINS. Each datum BY PROGRAM (the guide's laid-datum.mjs) off the statement by which the dump's own 'gosem.cut.vars' lays the variable. In a bare row this is a premise. The card (YtbiggilheicfjaaDoorCards.lean) ties it to the program's text. -/
def laid_math_bits_deBruijn32tab {H : Type} : DataW H := .agg [.lit (.int .u8 0), .lit (.int .u8 1), .lit (.int .u8 28), .lit (.int .u8 2), .lit (.int .u8 29), .lit (.int .u8 14), .lit (.int .u8 24), .lit (.int .u8 3), .lit (.int .u8 30), .lit (.int .u8 22), .lit (.int .u8 20), .lit (.int .u8 15), .lit (.int .u8 25), .lit (.int .u8 17), .lit (.int .u8 4), .lit (.int .u8 8), .lit (.int .u8 31), .lit (.int .u8 27), .lit (.int .u8 13), .lit (.int .u8 23), .lit (.int .u8 21), .lit (.int .u8 19), .lit (.int .u8 16), .lit (.int .u8 7), .lit (.int .u8 26), .lit (.int .u8 12), .lit (.int .u8 18), .lit (.int .u8 6), .lit (.int .u8 11), .lit (.int .u8 5), .lit (.int .u8 10), .lit (.int .u8 9)]
def laid_math_bits_deBruijn64tab {H : Type} : DataW H := .agg [.lit (.int .u8 0), .lit (.int .u8 1), .lit (.int .u8 56), .lit (.int .u8 2), .lit (.int .u8 57), .lit (.int .u8 49), .lit (.int .u8 28), .lit (.int .u8 3), .lit (.int .u8 61), .lit (.int .u8 58), .lit (.int .u8 42), .lit (.int .u8 50), .lit (.int .u8 38), .lit (.int .u8 29), .lit (.int .u8 17), .lit (.int .u8 4), .lit (.int .u8 62), .lit (.int .u8 47), .lit (.int .u8 59), .lit (.int .u8 36), .lit (.int .u8 45), .lit (.int .u8 43), .lit (.int .u8 51), .lit (.int .u8 22), .lit (.int .u8 53), .lit (.int .u8 39), .lit (.int .u8 33), .lit (.int .u8 30), .lit (.int .u8 24), .lit (.int .u8 18), .lit (.int .u8 12), .lit (.int .u8 5), .lit (.int .u8 63), .lit (.int .u8 55), .lit (.int .u8 48), .lit (.int .u8 27), .lit (.int .u8 60), .lit (.int .u8 41), .lit (.int .u8 37), .lit (.int .u8 16), .lit (.int .u8 46), .lit (.int .u8 35), .lit (.int .u8 44), .lit (.int .u8 21), .lit (.int .u8 52), .lit (.int .u8 32), .lit (.int .u8 23), .lit (.int .u8 11), .lit (.int .u8 54), .lit (.int .u8 26), .lit (.int .u8 40), .lit (.int .u8 15), .lit (.int .u8 34), .lit (.int .u8 20), .lit (.int .u8 31), .lit (.int .u8 10), .lit (.int .u8 25), .lit (.int .u8 14), .lit (.int .u8 19), .lit (.int .u8 9), .lit (.int .u8 13), .lit (.int .u8 8), .lit (.int .u8 7), .lit (.int .u8 6)]

/-- 'laws.FnTable': WHATEVER THE INPUT: true; the input reads as it did. -/
def fnTableSpec : ChangeSpec := { name := "fnTable", fn := fun _ => fun
  | [d] => { results := [.lit (.bool true)], args := [d] }
  | _ => none }
def fnTableRow : OpenClaim := { program := "ytbiggilheicfjaadoor", sum := "f85ac1d7abc86c664467ca3d5be0628a52600f5becfcfff06757febfc226033b", func := "loop.example/clubsandmembers/laws.FnTable", spec := "fnTable", unfollowed := true, recurses := true, named := ["math/bits.deBruijn32tab", "math/bits.deBruijn64tab"], plainKeys := false, apart := false, laid := [("math/bits.deBruijn32tab", laid_math_bits_deBruijn32tab), ("math/bits.deBruijn64tab", laid_math_bits_deBruijn64tab)] }
def FnTableSaid : Prop := fnTableRow.holds Tryd.pinned (OpenSpec.ofChange fnTableSpec)

/-- ITS FALSE NEIGHBOUR: 'it returns false'. Refute it at one input. -/
def fnTableWrong : ChangeSpec := { name := "fnTable", fn := fun _ => fun
  | [d] => { results := [.lit (.bool false)], args := [d] }
  | _ => none }
def FnTableWrongFalsely : Prop := fnTableRow.holds Tryd.pinned (OpenSpec.ofChange fnTableWrong)

/-- 'laws.FnTableFirst': WHATEVER THE INPUT: true; the input reads as it did. -/
def fnTableFirstSpec : ChangeSpec := { name := "fnTableFirst", fn := fun _ => fun
  | [d] => { results := [.lit (.bool true)], args := [d] }
  | _ => none }
def fnTableFirstRow : OpenClaim := { program := "ytbiggilheicfjaadoor", sum := "f85ac1d7abc86c664467ca3d5be0628a52600f5becfcfff06757febfc226033b", func := "loop.example/clubsandmembers/laws.FnTableFirst", spec := "fnTableFirst", unfollowed := true, recurses := true, named := ["math/bits.deBruijn32tab", "math/bits.deBruijn64tab"], plainKeys := false, apart := false, laid := [("math/bits.deBruijn32tab", laid_math_bits_deBruijn32tab), ("math/bits.deBruijn64tab", laid_math_bits_deBruijn64tab)] }
def FnTableFirstSaid : Prop := fnTableFirstRow.holds Tryd.pinned (OpenSpec.ofChange fnTableFirstSpec)

/-- ITS FALSE NEIGHBOUR: 'it returns false'. Refute it at one input. -/
def fnTableFirstWrong : ChangeSpec := { name := "fnTableFirst", fn := fun _ => fun
  | [d] => { results := [.lit (.bool false)], args := [d] }
  | _ => none }
def FnTableFirstWrongFalsely : Prop := fnTableFirstRow.holds Tryd.pinned (OpenSpec.ofChange fnTableFirstWrong)

/-- 'laws.FnTableMany': WHATEVER THE INPUT: true; the input reads as it did. -/
def fnTableManySpec : ChangeSpec := { name := "fnTableMany", fn := fun _ => fun
  | [d] => { results := [.lit (.bool true)], args := [d] }
  | _ => none }
def fnTableManyRow : OpenClaim := { program := "ytbiggilheicfjaadoor", sum := "f85ac1d7abc86c664467ca3d5be0628a52600f5becfcfff06757febfc226033b", func := "loop.example/clubsandmembers/laws.FnTableMany", spec := "fnTableMany", unfollowed := true, recurses := true, named := ["math/bits.deBruijn32tab", "math/bits.deBruijn64tab"], plainKeys := false, apart := false, laid := [("math/bits.deBruijn32tab", laid_math_bits_deBruijn32tab), ("math/bits.deBruijn64tab", laid_math_bits_deBruijn64tab)] }
def FnTableManySaid : Prop := fnTableManyRow.holds Tryd.pinned (OpenSpec.ofChange fnTableManySpec)

/-- ITS FALSE NEIGHBOUR: 'it returns false'. Refute it at one input. -/
def fnTableManyWrong : ChangeSpec := { name := "fnTableMany", fn := fun _ => fun
  | [d] => { results := [.lit (.bool false)], args := [d] }
  | _ => none }
def FnTableManyWrongFalsely : Prop := fnTableManyRow.holds Tryd.pinned (OpenSpec.ofChange fnTableManyWrong)

/-- 'laws.FnSteps': WHATEVER THE INPUT: true; the input reads as it did. -/
def fnStepsSpec : ChangeSpec := { name := "fnSteps", fn := fun _ => fun
  | [d] => { results := [.lit (.bool true)], args := [d] }
  | _ => none }
def fnStepsRow : OpenClaim := { program := "ytbiggilheicfjaadoor", sum := "f85ac1d7abc86c664467ca3d5be0628a52600f5becfcfff06757febfc226033b", func := "loop.example/clubsandmembers/laws.FnSteps", spec := "fnSteps", unfollowed := true, recurses := true, named := ["math/bits.deBruijn32tab", "math/bits.deBruijn64tab"], plainKeys := false, apart := false, laid := [("math/bits.deBruijn32tab", laid_math_bits_deBruijn32tab), ("math/bits.deBruijn64tab", laid_math_bits_deBruijn64tab)] }
def FnStepsSaid : Prop := fnStepsRow.holds Tryd.pinned (OpenSpec.ofChange fnStepsSpec)

/-- ITS FALSE NEIGHBOUR: 'it returns false'. Refute it at one input. -/
def fnStepsWrong : ChangeSpec := { name := "fnSteps", fn := fun _ => fun
  | [d] => { results := [.lit (.bool false)], args := [d] }
  | _ => none }
def FnStepsWrongFalsely : Prop := fnStepsRow.holds Tryd.pinned (OpenSpec.ofChange fnStepsWrong)

/-- 'laws.FnSwitches': WHATEVER THE INPUT: true; the input reads as it did. -/
def fnSwitchesSpec : ChangeSpec := { name := "fnSwitches", fn := fun _ => fun
  | [d] => { results := [.lit (.bool true)], args := [d] }
  | _ => none }
def fnSwitchesRow : OpenClaim := { program := "ytbiggilheicfjaadoor", sum := "f85ac1d7abc86c664467ca3d5be0628a52600f5becfcfff06757febfc226033b", func := "loop.example/clubsandmembers/laws.FnSwitches", spec := "fnSwitches", unfollowed := true, recurses := true, named := ["math/bits.deBruijn32tab", "math/bits.deBruijn64tab"], plainKeys := false, apart := false, laid := [("math/bits.deBruijn32tab", laid_math_bits_deBruijn32tab), ("math/bits.deBruijn64tab", laid_math_bits_deBruijn64tab)] }
def FnSwitchesSaid : Prop := fnSwitchesRow.holds Tryd.pinned (OpenSpec.ofChange fnSwitchesSpec)

/-- ITS FALSE NEIGHBOUR: 'it returns false'. Refute it at one input. -/
def fnSwitchesWrong : ChangeSpec := { name := "fnSwitches", fn := fun _ => fun
  | [d] => { results := [.lit (.bool false)], args := [d] }
  | _ => none }
def FnSwitchesWrongFalsely : Prop := fnSwitchesRow.holds Tryd.pinned (OpenSpec.ofChange fnSwitchesWrong)

/-- 'laws.FnFar': WHATEVER THE INPUT: true; the input reads as it did. -/
def fnFarSpec : ChangeSpec := { name := "fnFar", fn := fun _ => fun
  | [d] => { results := [.lit (.bool true)], args := [d] }
  | _ => none }
def fnFarRow : OpenClaim := { program := "ytbiggilheicfjaadoor", sum := "f85ac1d7abc86c664467ca3d5be0628a52600f5becfcfff06757febfc226033b", func := "loop.example/clubsandmembers/laws.FnFar", spec := "fnFar", unfollowed := true, recurses := true, named := ["math/bits.deBruijn32tab", "math/bits.deBruijn64tab"], plainKeys := false, apart := false, laid := [("math/bits.deBruijn32tab", laid_math_bits_deBruijn32tab), ("math/bits.deBruijn64tab", laid_math_bits_deBruijn64tab)] }
def FnFarSaid : Prop := fnFarRow.holds Tryd.pinned (OpenSpec.ofChange fnFarSpec)

/-- ITS FALSE NEIGHBOUR: 'it returns false'. Refute it at one input. -/
def fnFarWrong : ChangeSpec := { name := "fnFar", fn := fun _ => fun
  | [d] => { results := [.lit (.bool false)], args := [d] }
  | _ => none }
def FnFarWrongFalsely : Prop := fnFarRow.holds Tryd.pinned (OpenSpec.ofChange fnFarWrong)

/-- 'laws.FnExactTableMany': WHATEVER THE INPUT: true; the input reads as it did. -/
def fnExactTableManySpec : ChangeSpec := { name := "fnExactTableMany", fn := fun _ => fun
  | [d1, d2] => { results := [.lit (.bool true)], args := [d1, d2] }
  | _ => none }
def fnExactTableManyRow : OpenClaim := { program := "ytbiggilheicfjaadoor", sum := "f85ac1d7abc86c664467ca3d5be0628a52600f5becfcfff06757febfc226033b", func := "loop.example/clubsandmembers/laws.FnExactTableMany", spec := "fnExactTableMany", unfollowed := true, recurses := true, named := ["math/bits.deBruijn32tab", "math/bits.deBruijn64tab"], plainKeys := false, apart := false, laid := [("math/bits.deBruijn32tab", laid_math_bits_deBruijn32tab), ("math/bits.deBruijn64tab", laid_math_bits_deBruijn64tab)] }
def FnExactTableManySaid : Prop := fnExactTableManyRow.holds Tryd.pinned (OpenSpec.ofChange fnExactTableManySpec)

/-- ITS FALSE NEIGHBOUR: 'it returns false'. Refute it at one input. -/
def fnExactTableManyWrong : ChangeSpec := { name := "fnExactTableMany", fn := fun _ => fun
  | [d1, d2] => { results := [.lit (.bool false)], args := [d1, d2] }
  | _ => none }
def FnExactTableManyWrongFalsely : Prop := fnExactTableManyRow.holds Tryd.pinned (OpenSpec.ofChange fnExactTableManyWrong)

/-- 'laws.FnExactTableFirst': WHATEVER THE INPUT: true; the input reads as it did. -/
def fnExactTableFirstSpec : ChangeSpec := { name := "fnExactTableFirst", fn := fun _ => fun
  | [d1, d2] => { results := [.lit (.bool true)], args := [d1, d2] }
  | _ => none }
def fnExactTableFirstRow : OpenClaim := { program := "ytbiggilheicfjaadoor", sum := "f85ac1d7abc86c664467ca3d5be0628a52600f5becfcfff06757febfc226033b", func := "loop.example/clubsandmembers/laws.FnExactTableFirst", spec := "fnExactTableFirst", unfollowed := true, recurses := true, named := ["math/bits.deBruijn32tab", "math/bits.deBruijn64tab"], plainKeys := false, apart := false, laid := [("math/bits.deBruijn32tab", laid_math_bits_deBruijn32tab), ("math/bits.deBruijn64tab", laid_math_bits_deBruijn64tab)] }
def FnExactTableFirstSaid : Prop := fnExactTableFirstRow.holds Tryd.pinned (OpenSpec.ofChange fnExactTableFirstSpec)

/-- ITS FALSE NEIGHBOUR: 'it returns false'. Refute it at one input. -/
def fnExactTableFirstWrong : ChangeSpec := { name := "fnExactTableFirst", fn := fun _ => fun
  | [d1, d2] => { results := [.lit (.bool false)], args := [d1, d2] }
  | _ => none }
def FnExactTableFirstWrongFalsely : Prop := fnExactTableFirstRow.holds Tryd.pinned (OpenSpec.ofChange fnExactTableFirstWrong)

/-- 'laws.FnExactTableSwitches': WHATEVER THE INPUT: true; the input reads as it did. -/
def fnExactTableSwitchesSpec : ChangeSpec := { name := "fnExactTableSwitches", fn := fun _ => fun
  | [d] => { results := [.lit (.bool true)], args := [d] }
  | _ => none }
def fnExactTableSwitchesRow : OpenClaim := { program := "ytbiggilheicfjaadoor", sum := "f85ac1d7abc86c664467ca3d5be0628a52600f5becfcfff06757febfc226033b", func := "loop.example/clubsandmembers/laws.FnExactTableSwitches", spec := "fnExactTableSwitches", unfollowed := true, recurses := true, named := ["math/bits.deBruijn32tab", "math/bits.deBruijn64tab"], plainKeys := false, apart := false, laid := [("math/bits.deBruijn32tab", laid_math_bits_deBruijn32tab), ("math/bits.deBruijn64tab", laid_math_bits_deBruijn64tab)] }
def FnExactTableSwitchesSaid : Prop := fnExactTableSwitchesRow.holds Tryd.pinned (OpenSpec.ofChange fnExactTableSwitchesSpec)

/-- ITS FALSE NEIGHBOUR: 'it returns false'. Refute it at one input. -/
def fnExactTableSwitchesWrong : ChangeSpec := { name := "fnExactTableSwitches", fn := fun _ => fun
  | [d] => { results := [.lit (.bool false)], args := [d] }
  | _ => none }
def FnExactTableSwitchesWrongFalsely : Prop := fnExactTableSwitchesRow.holds Tryd.pinned (OpenSpec.ofChange fnExactTableSwitchesWrong)

/-- 'laws.FnExactTableFar': WHATEVER THE INPUT: true; the input reads as it did. -/
def fnExactTableFarSpec : ChangeSpec := { name := "fnExactTableFar", fn := fun _ => fun
  | [d1, d2] => { results := [.lit (.bool true)], args := [d1, d2] }
  | _ => none }
def fnExactTableFarRow : OpenClaim := { program := "ytbiggilheicfjaadoor", sum := "f85ac1d7abc86c664467ca3d5be0628a52600f5becfcfff06757febfc226033b", func := "loop.example/clubsandmembers/laws.FnExactTableFar", spec := "fnExactTableFar", unfollowed := true, recurses := true, named := ["math/bits.deBruijn32tab", "math/bits.deBruijn64tab"], plainKeys := false, apart := false, laid := [("math/bits.deBruijn32tab", laid_math_bits_deBruijn32tab), ("math/bits.deBruijn64tab", laid_math_bits_deBruijn64tab)] }
def FnExactTableFarSaid : Prop := fnExactTableFarRow.holds Tryd.pinned (OpenSpec.ofChange fnExactTableFarSpec)

/-- ITS FALSE NEIGHBOUR: 'it returns false'. Refute it at one input. -/
def fnExactTableFarWrong : ChangeSpec := { name := "fnExactTableFar", fn := fun _ => fun
  | [d1, d2] => { results := [.lit (.bool false)], args := [d1, d2] }
  | _ => none }
def FnExactTableFarWrongFalsely : Prop := fnExactTableFarRow.holds Tryd.pinned (OpenSpec.ofChange fnExactTableFarWrong)

/- THE SECOND FORM. 'bulk': how many values and letters a reading holds, each counted each time it is reached (what is shared counts as often as it is met; a slice's spare places count too). A statement '..UptoSaid' is the law's where the arguments, and the package variables that the reading takes, are together of bulk at most 1048576: NARROWER than '..Said'. Prove '..Said' where nothing that the law and all that it calls make is longer than what came in: it says more and counts as full. Else prove '..UptoSaid'. A law counts once. -/
mutual
def uptoBulk {H : Type} : DataW H → Nat
  | .lit (.string bytes) => bytes.length + 1
  | .lit _ => 1
  | .nil => 1
  | .ptr d => uptoBulk d + 1
  | .slice elems spare => uptoBulkAll elems + uptoBulkAll spare + 1
  | .agg parts => uptoBulkAll parts + 1
  | .iface _ d => uptoBulk d + 1
  | .map entries => uptoBulkEntries entries + 1
  | .held _ => 1
def uptoBulkAll {H : Type} : List (DataW H) → Nat
  | [] => 0
  | d :: r => uptoBulk d + uptoBulkAll r
def uptoBulkEntries {H : Type} : List (Lit × DataW H) → Nat
  | [] => 0
  | x :: r => uptoBulkEntry x + uptoBulkEntries r
def uptoBulkEntry {H : Type} : Lit × DataW H → Nat
  | (.string bytes, d) => bytes.length + uptoBulk d + 1
  | (_, d) => uptoBulk d + 1
 end
def uptoSmall : (H : Type) → List (DataW H) → Bool := fun _ ds => decide (uptoBulkAll ds ≤ 1048576)
def OpenSpec.upto (s : _root_.Go.ChangeSpec) : _root_.Go.OpenSpec := { _root_.Go.OpenSpec.ofChange s with cond := some uptoSmall }

/-- 'laws.FnTable', WHERE WHAT IT READS IS OF BULK AT MOST 1048576: true; the input reads as it did. -/
def fnTableUptoRow : OpenClaim := { program := "ytbiggilheicfjaadoor", sum := "f85ac1d7abc86c664467ca3d5be0628a52600f5becfcfff06757febfc226033b", func := "loop.example/clubsandmembers/laws.FnTable", spec := "fnTable", unfollowed := true, recurses := true, named := ["math/bits.deBruijn32tab", "math/bits.deBruijn64tab"], plainKeys := false, apart := false, laid := [("math/bits.deBruijn32tab", laid_math_bits_deBruijn32tab), ("math/bits.deBruijn64tab", laid_math_bits_deBruijn64tab)], narrowed := true }
def FnTableUptoSaid : Prop := fnTableUptoRow.holds Tryd.pinned (OpenSpec.upto fnTableSpec)

/-- 'laws.FnTableFirst', WHERE WHAT IT READS IS OF BULK AT MOST 1048576: true; the input reads as it did. -/
def fnTableFirstUptoRow : OpenClaim := { program := "ytbiggilheicfjaadoor", sum := "f85ac1d7abc86c664467ca3d5be0628a52600f5becfcfff06757febfc226033b", func := "loop.example/clubsandmembers/laws.FnTableFirst", spec := "fnTableFirst", unfollowed := true, recurses := true, named := ["math/bits.deBruijn32tab", "math/bits.deBruijn64tab"], plainKeys := false, apart := false, laid := [("math/bits.deBruijn32tab", laid_math_bits_deBruijn32tab), ("math/bits.deBruijn64tab", laid_math_bits_deBruijn64tab)], narrowed := true }
def FnTableFirstUptoSaid : Prop := fnTableFirstUptoRow.holds Tryd.pinned (OpenSpec.upto fnTableFirstSpec)

/-- 'laws.FnTableMany', WHERE WHAT IT READS IS OF BULK AT MOST 1048576: true; the input reads as it did. -/
def fnTableManyUptoRow : OpenClaim := { program := "ytbiggilheicfjaadoor", sum := "f85ac1d7abc86c664467ca3d5be0628a52600f5becfcfff06757febfc226033b", func := "loop.example/clubsandmembers/laws.FnTableMany", spec := "fnTableMany", unfollowed := true, recurses := true, named := ["math/bits.deBruijn32tab", "math/bits.deBruijn64tab"], plainKeys := false, apart := false, laid := [("math/bits.deBruijn32tab", laid_math_bits_deBruijn32tab), ("math/bits.deBruijn64tab", laid_math_bits_deBruijn64tab)], narrowed := true }
def FnTableManyUptoSaid : Prop := fnTableManyUptoRow.holds Tryd.pinned (OpenSpec.upto fnTableManySpec)

/-- 'laws.FnSteps', WHERE WHAT IT READS IS OF BULK AT MOST 1048576: true; the input reads as it did. -/
def fnStepsUptoRow : OpenClaim := { program := "ytbiggilheicfjaadoor", sum := "f85ac1d7abc86c664467ca3d5be0628a52600f5becfcfff06757febfc226033b", func := "loop.example/clubsandmembers/laws.FnSteps", spec := "fnSteps", unfollowed := true, recurses := true, named := ["math/bits.deBruijn32tab", "math/bits.deBruijn64tab"], plainKeys := false, apart := false, laid := [("math/bits.deBruijn32tab", laid_math_bits_deBruijn32tab), ("math/bits.deBruijn64tab", laid_math_bits_deBruijn64tab)], narrowed := true }
def FnStepsUptoSaid : Prop := fnStepsUptoRow.holds Tryd.pinned (OpenSpec.upto fnStepsSpec)

/-- 'laws.FnSwitches', WHERE WHAT IT READS IS OF BULK AT MOST 1048576: true; the input reads as it did. -/
def fnSwitchesUptoRow : OpenClaim := { program := "ytbiggilheicfjaadoor", sum := "f85ac1d7abc86c664467ca3d5be0628a52600f5becfcfff06757febfc226033b", func := "loop.example/clubsandmembers/laws.FnSwitches", spec := "fnSwitches", unfollowed := true, recurses := true, named := ["math/bits.deBruijn32tab", "math/bits.deBruijn64tab"], plainKeys := false, apart := false, laid := [("math/bits.deBruijn32tab", laid_math_bits_deBruijn32tab), ("math/bits.deBruijn64tab", laid_math_bits_deBruijn64tab)], narrowed := true }
def FnSwitchesUptoSaid : Prop := fnSwitchesUptoRow.holds Tryd.pinned (OpenSpec.upto fnSwitchesSpec)

/-- 'laws.FnFar', WHERE WHAT IT READS IS OF BULK AT MOST 1048576: true; the input reads as it did. -/
def fnFarUptoRow : OpenClaim := { program := "ytbiggilheicfjaadoor", sum := "f85ac1d7abc86c664467ca3d5be0628a52600f5becfcfff06757febfc226033b", func := "loop.example/clubsandmembers/laws.FnFar", spec := "fnFar", unfollowed := true, recurses := true, named := ["math/bits.deBruijn32tab", "math/bits.deBruijn64tab"], plainKeys := false, apart := false, laid := [("math/bits.deBruijn32tab", laid_math_bits_deBruijn32tab), ("math/bits.deBruijn64tab", laid_math_bits_deBruijn64tab)], narrowed := true }
def FnFarUptoSaid : Prop := fnFarUptoRow.holds Tryd.pinned (OpenSpec.upto fnFarSpec)

/-- 'laws.FnExactTableMany', WHERE WHAT IT READS IS OF BULK AT MOST 1048576: true; the input reads as it did. -/
def fnExactTableManyUptoRow : OpenClaim := { program := "ytbiggilheicfjaadoor", sum := "f85ac1d7abc86c664467ca3d5be0628a52600f5becfcfff06757febfc226033b", func := "loop.example/clubsandmembers/laws.FnExactTableMany", spec := "fnExactTableMany", unfollowed := true, recurses := true, named := ["math/bits.deBruijn32tab", "math/bits.deBruijn64tab"], plainKeys := false, apart := false, laid := [("math/bits.deBruijn32tab", laid_math_bits_deBruijn32tab), ("math/bits.deBruijn64tab", laid_math_bits_deBruijn64tab)], narrowed := true }
def FnExactTableManyUptoSaid : Prop := fnExactTableManyUptoRow.holds Tryd.pinned (OpenSpec.upto fnExactTableManySpec)

/-- 'laws.FnExactTableFirst', WHERE WHAT IT READS IS OF BULK AT MOST 1048576: true; the input reads as it did. -/
def fnExactTableFirstUptoRow : OpenClaim := { program := "ytbiggilheicfjaadoor", sum := "f85ac1d7abc86c664467ca3d5be0628a52600f5becfcfff06757febfc226033b", func := "loop.example/clubsandmembers/laws.FnExactTableFirst", spec := "fnExactTableFirst", unfollowed := true, recurses := true, named := ["math/bits.deBruijn32tab", "math/bits.deBruijn64tab"], plainKeys := false, apart := false, laid := [("math/bits.deBruijn32tab", laid_math_bits_deBruijn32tab), ("math/bits.deBruijn64tab", laid_math_bits_deBruijn64tab)], narrowed := true }
def FnExactTableFirstUptoSaid : Prop := fnExactTableFirstUptoRow.holds Tryd.pinned (OpenSpec.upto fnExactTableFirstSpec)

/-- 'laws.FnExactTableSwitches', WHERE WHAT IT READS IS OF BULK AT MOST 1048576: true; the input reads as it did. -/
def fnExactTableSwitchesUptoRow : OpenClaim := { program := "ytbiggilheicfjaadoor", sum := "f85ac1d7abc86c664467ca3d5be0628a52600f5becfcfff06757febfc226033b", func := "loop.example/clubsandmembers/laws.FnExactTableSwitches", spec := "fnExactTableSwitches", unfollowed := true, recurses := true, named := ["math/bits.deBruijn32tab", "math/bits.deBruijn64tab"], plainKeys := false, apart := false, laid := [("math/bits.deBruijn32tab", laid_math_bits_deBruijn32tab), ("math/bits.deBruijn64tab", laid_math_bits_deBruijn64tab)], narrowed := true }
def FnExactTableSwitchesUptoSaid : Prop := fnExactTableSwitchesUptoRow.holds Tryd.pinned (OpenSpec.upto fnExactTableSwitchesSpec)

/-- 'laws.FnExactTableFar', WHERE WHAT IT READS IS OF BULK AT MOST 1048576: true; the input reads as it did. -/
def fnExactTableFarUptoRow : OpenClaim := { program := "ytbiggilheicfjaadoor", sum := "f85ac1d7abc86c664467ca3d5be0628a52600f5becfcfff06757febfc226033b", func := "loop.example/clubsandmembers/laws.FnExactTableFar", spec := "fnExactTableFar", unfollowed := true, recurses := true, named := ["math/bits.deBruijn32tab", "math/bits.deBruijn64tab"], plainKeys := false, apart := false, laid := [("math/bits.deBruijn32tab", laid_math_bits_deBruijn32tab), ("math/bits.deBruijn64tab", laid_math_bits_deBruijn64tab)], narrowed := true }
def FnExactTableFarUptoSaid : Prop := fnExactTableFarUptoRow.holds Tryd.pinned (OpenSpec.upto fnExactTableFarSpec)

end Rows
end Go.Proofs.YtbiggilheicfjaaDoor
