/-
  NARROWER THAN 'FOR EVERY INPUT', by the rows' own cells (each row's printed sentence says how): FnFallsRoads: laid · FnUneven: laid · FnByPairs: laid · FnNested: laid · FnExactEarByPairs: laid · FnExactColourUneven: laid.
  DERIVED. THE GIVEN ROWS OF THIS SEAT. 6 by the template 'for every input the law returns true; each argument reads behind the call as it read before'; 0 by the template 'total and deterministic' (their statements: YtckbhhaigpajpaaDoorTotals.lean).
  GIVEN WITH THE SEED: the statements are not yours to turn. If you find one false, say at which input.
  Laid BY PROGRAM, IN A SANDBOX (cutbox-rows.mjs): the forced cells as the released guide's own fill.sh prints them over the translation 8dbbe6ca31cefcfb… (all of the seat's roots in one cut). By AI agents, Wed Nov 11 2026. No macro, syntax, notation, axiom, sorry.
-/
import Derived.Test.YtckbhhaigpajpaaDoorChecked
import GoSem.Claim
import GoSem.ClaimJoined
import GoSem.ClaimMapViews
import Derived.JoinedTies
import Derived.KernelRfl
namespace Go.Proofs.YtckbhhaigpajpaaDoor
/- THE CELL 'sum', in the pinned program and in every row, IS THE sha256 OF THE DUMP (.gsa) THAT YtckbhhaigpajpaaDoorProg.lean LOADS. Nothing in Lean hashes anything: it is a label: what it is worth is what the hold of that sum in a sandbox is worth. -/
noncomputable def Tryd.pinned : Pinned := { name := "ytckbhhaigpajpaadoor", sum := "8dbbe6ca31cefcfbdf889aea35d0115ccead61a85749ad50c8a72d7c6eef745a", checked := Tryd.checked }
namespace Rows
def none {H : Type} : Left H := { results := [], args := [] }

/- WHAT THE LISTED PACKAGE-LEVEL VARIABLES READ AS WHEN THE CALL BEGINS. Each datum BY PROGRAM (the guide's laid-datum.mjs) off the statement by which the dump's own 'gosem.cut.vars' lays the variable. In a bare row this is a premise. The card (YtckbhhaigpajpaaDoorCards.lean) ties it to the program's text. -/
def laid_math_bits_deBruijn32tab {H : Type} : DataW H := .agg [.lit (.int .u8 0), .lit (.int .u8 1), .lit (.int .u8 28), .lit (.int .u8 2), .lit (.int .u8 29), .lit (.int .u8 14), .lit (.int .u8 24), .lit (.int .u8 3), .lit (.int .u8 30), .lit (.int .u8 22), .lit (.int .u8 20), .lit (.int .u8 15), .lit (.int .u8 25), .lit (.int .u8 17), .lit (.int .u8 4), .lit (.int .u8 8), .lit (.int .u8 31), .lit (.int .u8 27), .lit (.int .u8 13), .lit (.int .u8 23), .lit (.int .u8 21), .lit (.int .u8 19), .lit (.int .u8 16), .lit (.int .u8 7), .lit (.int .u8 26), .lit (.int .u8 12), .lit (.int .u8 18), .lit (.int .u8 6), .lit (.int .u8 11), .lit (.int .u8 5), .lit (.int .u8 10), .lit (.int .u8 9)]
def laid_math_bits_deBruijn64tab {H : Type} : DataW H := .agg [.lit (.int .u8 0), .lit (.int .u8 1), .lit (.int .u8 56), .lit (.int .u8 2), .lit (.int .u8 57), .lit (.int .u8 49), .lit (.int .u8 28), .lit (.int .u8 3), .lit (.int .u8 61), .lit (.int .u8 58), .lit (.int .u8 42), .lit (.int .u8 50), .lit (.int .u8 38), .lit (.int .u8 29), .lit (.int .u8 17), .lit (.int .u8 4), .lit (.int .u8 62), .lit (.int .u8 47), .lit (.int .u8 59), .lit (.int .u8 36), .lit (.int .u8 45), .lit (.int .u8 43), .lit (.int .u8 51), .lit (.int .u8 22), .lit (.int .u8 53), .lit (.int .u8 39), .lit (.int .u8 33), .lit (.int .u8 30), .lit (.int .u8 24), .lit (.int .u8 18), .lit (.int .u8 12), .lit (.int .u8 5), .lit (.int .u8 63), .lit (.int .u8 55), .lit (.int .u8 48), .lit (.int .u8 27), .lit (.int .u8 60), .lit (.int .u8 41), .lit (.int .u8 37), .lit (.int .u8 16), .lit (.int .u8 46), .lit (.int .u8 35), .lit (.int .u8 44), .lit (.int .u8 21), .lit (.int .u8 52), .lit (.int .u8 32), .lit (.int .u8 23), .lit (.int .u8 11), .lit (.int .u8 54), .lit (.int .u8 26), .lit (.int .u8 40), .lit (.int .u8 15), .lit (.int .u8 34), .lit (.int .u8 20), .lit (.int .u8 31), .lit (.int .u8 10), .lit (.int .u8 25), .lit (.int .u8 14), .lit (.int .u8 19), .lit (.int .u8 9), .lit (.int .u8 13), .lit (.int .u8 8), .lit (.int .u8 7), .lit (.int .u8 6)]

/-- 'laws.FnFallsRoads': WHATEVER THE INPUT: true; the input reads as it did. -/
def fnFallsRoadsSpec : ChangeSpec := { name := "fnFallsRoads", fn := fun _ => fun
  | [d] => { results := [.lit (.bool true)], args := [d] }
  | _ => none }
def fnFallsRoadsRow : OpenClaim := { program := "ytckbhhaigpajpaadoor", sum := "8dbbe6ca31cefcfbdf889aea35d0115ccead61a85749ad50c8a72d7c6eef745a", func := "loop.example/clubsandmembers/laws.FnFallsRoads", spec := "fnFallsRoads", unfollowed := true, recurses := true, named := ["math/bits.deBruijn32tab", "math/bits.deBruijn64tab"], apart := false, laid := [("math/bits.deBruijn32tab", laid_math_bits_deBruijn32tab), ("math/bits.deBruijn64tab", laid_math_bits_deBruijn64tab)] }
def FnFallsRoadsSaid : Prop := fnFallsRoadsRow.holds Tryd.pinned (OpenSpec.ofChange fnFallsRoadsSpec)

/-- ITS FALSE NEIGHBOUR: 'it returns false'. Refute it at one input. -/
def fnFallsRoadsWrong : ChangeSpec := { name := "fnFallsRoads", fn := fun _ => fun
  | [d] => { results := [.lit (.bool false)], args := [d] }
  | _ => none }
def FnFallsRoadsWrongFalsely : Prop := fnFallsRoadsRow.holds Tryd.pinned (OpenSpec.ofChange fnFallsRoadsWrong)

/-- 'laws.FnUneven': WHATEVER THE INPUT: true; the input reads as it did. -/
def fnUnevenSpec : ChangeSpec := { name := "fnUneven", fn := fun _ => fun
  | [d] => { results := [.lit (.bool true)], args := [d] }
  | _ => none }
def fnUnevenRow : OpenClaim := { program := "ytckbhhaigpajpaadoor", sum := "8dbbe6ca31cefcfbdf889aea35d0115ccead61a85749ad50c8a72d7c6eef745a", func := "loop.example/clubsandmembers/laws.FnUneven", spec := "fnUneven", unfollowed := true, recurses := true, named := ["math/bits.deBruijn32tab", "math/bits.deBruijn64tab"], apart := false, laid := [("math/bits.deBruijn32tab", laid_math_bits_deBruijn32tab), ("math/bits.deBruijn64tab", laid_math_bits_deBruijn64tab)] }
def FnUnevenSaid : Prop := fnUnevenRow.holds Tryd.pinned (OpenSpec.ofChange fnUnevenSpec)

/-- ITS FALSE NEIGHBOUR: 'it returns false'. Refute it at one input. -/
def fnUnevenWrong : ChangeSpec := { name := "fnUneven", fn := fun _ => fun
  | [d] => { results := [.lit (.bool false)], args := [d] }
  | _ => none }
def FnUnevenWrongFalsely : Prop := fnUnevenRow.holds Tryd.pinned (OpenSpec.ofChange fnUnevenWrong)

/-- 'laws.FnByPairs': WHATEVER THE INPUT: true; the input reads as it did. -/
def fnByPairsSpec : ChangeSpec := { name := "fnByPairs", fn := fun _ => fun
  | [d] => { results := [.lit (.bool true)], args := [d] }
  | _ => none }
def fnByPairsRow : OpenClaim := { program := "ytckbhhaigpajpaadoor", sum := "8dbbe6ca31cefcfbdf889aea35d0115ccead61a85749ad50c8a72d7c6eef745a", func := "loop.example/clubsandmembers/laws.FnByPairs", spec := "fnByPairs", unfollowed := true, recurses := true, named := ["math/bits.deBruijn32tab", "math/bits.deBruijn64tab"], apart := false, laid := [("math/bits.deBruijn32tab", laid_math_bits_deBruijn32tab), ("math/bits.deBruijn64tab", laid_math_bits_deBruijn64tab)] }
def FnByPairsSaid : Prop := fnByPairsRow.holds Tryd.pinned (OpenSpec.ofChange fnByPairsSpec)

/-- ITS FALSE NEIGHBOUR: 'it returns false'. Refute it at one input. -/
def fnByPairsWrong : ChangeSpec := { name := "fnByPairs", fn := fun _ => fun
  | [d] => { results := [.lit (.bool false)], args := [d] }
  | _ => none }
def FnByPairsWrongFalsely : Prop := fnByPairsRow.holds Tryd.pinned (OpenSpec.ofChange fnByPairsWrong)

/-- 'laws.FnNested': WHATEVER THE INPUT: true; the input reads as it did. -/
def fnNestedSpec : ChangeSpec := { name := "fnNested", fn := fun _ => fun
  | [d] => { results := [.lit (.bool true)], args := [d] }
  | _ => none }
def fnNestedRow : OpenClaim := { program := "ytckbhhaigpajpaadoor", sum := "8dbbe6ca31cefcfbdf889aea35d0115ccead61a85749ad50c8a72d7c6eef745a", func := "loop.example/clubsandmembers/laws.FnNested", spec := "fnNested", unfollowed := true, recurses := true, named := ["math/bits.deBruijn32tab", "math/bits.deBruijn64tab"], apart := false, laid := [("math/bits.deBruijn32tab", laid_math_bits_deBruijn32tab), ("math/bits.deBruijn64tab", laid_math_bits_deBruijn64tab)] }
def FnNestedSaid : Prop := fnNestedRow.holds Tryd.pinned (OpenSpec.ofChange fnNestedSpec)

/-- ITS FALSE NEIGHBOUR: 'it returns false'. Refute it at one input. -/
def fnNestedWrong : ChangeSpec := { name := "fnNested", fn := fun _ => fun
  | [d] => { results := [.lit (.bool false)], args := [d] }
  | _ => none }
def FnNestedWrongFalsely : Prop := fnNestedRow.holds Tryd.pinned (OpenSpec.ofChange fnNestedWrong)

/-- 'laws.FnExactEarByPairs': WHATEVER THE INPUT: true; the input reads as it did. -/
def fnExactEarByPairsSpec : ChangeSpec := { name := "fnExactEarByPairs", fn := fun _ => fun
  | [d] => { results := [.lit (.bool true)], args := [d] }
  | _ => none }
def fnExactEarByPairsRow : OpenClaim := { program := "ytckbhhaigpajpaadoor", sum := "8dbbe6ca31cefcfbdf889aea35d0115ccead61a85749ad50c8a72d7c6eef745a", func := "loop.example/clubsandmembers/laws.FnExactEarByPairs", spec := "fnExactEarByPairs", unfollowed := true, recurses := true, named := ["math/bits.deBruijn32tab", "math/bits.deBruijn64tab"], apart := false, laid := [("math/bits.deBruijn32tab", laid_math_bits_deBruijn32tab), ("math/bits.deBruijn64tab", laid_math_bits_deBruijn64tab)] }
def FnExactEarByPairsSaid : Prop := fnExactEarByPairsRow.holds Tryd.pinned (OpenSpec.ofChange fnExactEarByPairsSpec)

/-- ITS FALSE NEIGHBOUR: 'it returns false'. Refute it at one input. -/
def fnExactEarByPairsWrong : ChangeSpec := { name := "fnExactEarByPairs", fn := fun _ => fun
  | [d] => { results := [.lit (.bool false)], args := [d] }
  | _ => none }
def FnExactEarByPairsWrongFalsely : Prop := fnExactEarByPairsRow.holds Tryd.pinned (OpenSpec.ofChange fnExactEarByPairsWrong)

/-- 'laws.FnExactColourUneven': WHATEVER THE INPUT: true; the input reads as it did. -/
def fnExactColourUnevenSpec : ChangeSpec := { name := "fnExactColourUneven", fn := fun _ => fun
  | [d] => { results := [.lit (.bool true)], args := [d] }
  | _ => none }
def fnExactColourUnevenRow : OpenClaim := { program := "ytckbhhaigpajpaadoor", sum := "8dbbe6ca31cefcfbdf889aea35d0115ccead61a85749ad50c8a72d7c6eef745a", func := "loop.example/clubsandmembers/laws.FnExactColourUneven", spec := "fnExactColourUneven", unfollowed := true, recurses := true, named := ["math/bits.deBruijn32tab", "math/bits.deBruijn64tab"], apart := false, laid := [("math/bits.deBruijn32tab", laid_math_bits_deBruijn32tab), ("math/bits.deBruijn64tab", laid_math_bits_deBruijn64tab)] }
def FnExactColourUnevenSaid : Prop := fnExactColourUnevenRow.holds Tryd.pinned (OpenSpec.ofChange fnExactColourUnevenSpec)

/-- ITS FALSE NEIGHBOUR: 'it returns false'. Refute it at one input. -/
def fnExactColourUnevenWrong : ChangeSpec := { name := "fnExactColourUneven", fn := fun _ => fun
  | [d] => { results := [.lit (.bool false)], args := [d] }
  | _ => none }
def FnExactColourUnevenWrongFalsely : Prop := fnExactColourUnevenRow.holds Tryd.pinned (OpenSpec.ofChange fnExactColourUnevenWrong)

/- THE SECOND FORM. 'bulk': how many values and letters a reading holds, each counted each time it is reached (what is shared counts as often as it is met; a slice's spare places count too). A statement '..UptoSaid' is the law's where the arguments, and the package variables that the reading takes, are together of bulk at most 1048576: NARROWER than '..Said'. Prove '..Said' where nothing that the law and all that it calls make is longer than what came in: it says more and counts as full. Else prove '..UptoSaid'. A law counts once. -/
mutual
def uptoBulk {H : Type} : DataW H → Nat
  | .lit (.string bytes) => bytes.length + 1
  | .lit _ => 1
  | .nil => 1
  | .ptr d => uptoBulk d + 1
  | .slice elems spare => uptoBulkAll elems + uptoBulkAll spare + 1
  | .agg parts => uptoBulkAll parts + 1
  | .iface _ d => uptoBulk d + 1
  | .map entries => uptoBulkEntries entries + 1
  | .held _ => 1
def uptoBulkAll {H : Type} : List (DataW H) → Nat
  | [] => 0
  | d :: r => uptoBulk d + uptoBulkAll r
def uptoBulkEntries {H : Type} : List (Lit × DataW H) → Nat
  | [] => 0
  | x :: r => uptoBulkEntry x + uptoBulkEntries r
def uptoBulkEntry {H : Type} : Lit × DataW H → Nat
  | (.string bytes, d) => bytes.length + uptoBulk d + 1
  | (_, d) => uptoBulk d + 1
 end
def uptoSmall : (H : Type) → List (DataW H) → Bool := fun _ ds => decide (uptoBulkAll ds ≤ 1048576)
def OpenSpec.upto (s : _root_.Go.ChangeSpec) : _root_.Go.OpenSpec := { _root_.Go.OpenSpec.ofChange s with cond := some uptoSmall }

/-- 'laws.FnFallsRoads', WHERE WHAT IT READS IS OF BULK AT MOST 1048576: true; the input reads as it did. -/
def fnFallsRoadsUptoRow : OpenClaim := { program := "ytckbhhaigpajpaadoor", sum := "8dbbe6ca31cefcfbdf889aea35d0115ccead61a85749ad50c8a72d7c6eef745a", func := "loop.example/clubsandmembers/laws.FnFallsRoads", spec := "fnFallsRoads", unfollowed := true, recurses := true, named := ["math/bits.deBruijn32tab", "math/bits.deBruijn64tab"], apart := false, laid := [("math/bits.deBruijn32tab", laid_math_bits_deBruijn32tab), ("math/bits.deBruijn64tab", laid_math_bits_deBruijn64tab)], narrowed := true }
def FnFallsRoadsUptoSaid : Prop := fnFallsRoadsUptoRow.holds Tryd.pinned (OpenSpec.upto fnFallsRoadsSpec)

/-- 'laws.FnUneven', WHERE WHAT IT READS IS OF BULK AT MOST 1048576: true; the input reads as it did. -/
def fnUnevenUptoRow : OpenClaim := { program := "ytckbhhaigpajpaadoor", sum := "8dbbe6ca31cefcfbdf889aea35d0115ccead61a85749ad50c8a72d7c6eef745a", func := "loop.example/clubsandmembers/laws.FnUneven", spec := "fnUneven", unfollowed := true, recurses := true, named := ["math/bits.deBruijn32tab", "math/bits.deBruijn64tab"], apart := false, laid := [("math/bits.deBruijn32tab", laid_math_bits_deBruijn32tab), ("math/bits.deBruijn64tab", laid_math_bits_deBruijn64tab)], narrowed := true }
def FnUnevenUptoSaid : Prop := fnUnevenUptoRow.holds Tryd.pinned (OpenSpec.upto fnUnevenSpec)

/-- 'laws.FnByPairs', WHERE WHAT IT READS IS OF BULK AT MOST 1048576: true; the input reads as it did. -/
def fnByPairsUptoRow : OpenClaim := { program := "ytckbhhaigpajpaadoor", sum := "8dbbe6ca31cefcfbdf889aea35d0115ccead61a85749ad50c8a72d7c6eef745a", func := "loop.example/clubsandmembers/laws.FnByPairs", spec := "fnByPairs", unfollowed := true, recurses := true, named := ["math/bits.deBruijn32tab", "math/bits.deBruijn64tab"], apart := false, laid := [("math/bits.deBruijn32tab", laid_math_bits_deBruijn32tab), ("math/bits.deBruijn64tab", laid_math_bits_deBruijn64tab)], narrowed := true }
def FnByPairsUptoSaid : Prop := fnByPairsUptoRow.holds Tryd.pinned (OpenSpec.upto fnByPairsSpec)

/-- 'laws.FnNested', WHERE WHAT IT READS IS OF BULK AT MOST 1048576: true; the input reads as it did. -/
def fnNestedUptoRow : OpenClaim := { program := "ytckbhhaigpajpaadoor", sum := "8dbbe6ca31cefcfbdf889aea35d0115ccead61a85749ad50c8a72d7c6eef745a", func := "loop.example/clubsandmembers/laws.FnNested", spec := "fnNested", unfollowed := true, recurses := true, named := ["math/bits.deBruijn32tab", "math/bits.deBruijn64tab"], apart := false, laid := [("math/bits.deBruijn32tab", laid_math_bits_deBruijn32tab), ("math/bits.deBruijn64tab", laid_math_bits_deBruijn64tab)], narrowed := true }
def FnNestedUptoSaid : Prop := fnNestedUptoRow.holds Tryd.pinned (OpenSpec.upto fnNestedSpec)

/-- 'laws.FnExactEarByPairs', WHERE WHAT IT READS IS OF BULK AT MOST 1048576: true; the input reads as it did. -/
def fnExactEarByPairsUptoRow : OpenClaim := { program := "ytckbhhaigpajpaadoor", sum := "8dbbe6ca31cefcfbdf889aea35d0115ccead61a85749ad50c8a72d7c6eef745a", func := "loop.example/clubsandmembers/laws.FnExactEarByPairs", spec := "fnExactEarByPairs", unfollowed := true, recurses := true, named := ["math/bits.deBruijn32tab", "math/bits.deBruijn64tab"], apart := false, laid := [("math/bits.deBruijn32tab", laid_math_bits_deBruijn32tab), ("math/bits.deBruijn64tab", laid_math_bits_deBruijn64tab)], narrowed := true }
def FnExactEarByPairsUptoSaid : Prop := fnExactEarByPairsUptoRow.holds Tryd.pinned (OpenSpec.upto fnExactEarByPairsSpec)

/-- 'laws.FnExactColourUneven', WHERE WHAT IT READS IS OF BULK AT MOST 1048576: true; the input reads as it did. -/
def fnExactColourUnevenUptoRow : OpenClaim := { program := "ytckbhhaigpajpaadoor", sum := "8dbbe6ca31cefcfbdf889aea35d0115ccead61a85749ad50c8a72d7c6eef745a", func := "loop.example/clubsandmembers/laws.FnExactColourUneven", spec := "fnExactColourUneven", unfollowed := true, recurses := true, named := ["math/bits.deBruijn32tab", "math/bits.deBruijn64tab"], apart := false, laid := [("math/bits.deBruijn32tab", laid_math_bits_deBruijn32tab), ("math/bits.deBruijn64tab", laid_math_bits_deBruijn64tab)], narrowed := true }
def FnExactColourUnevenUptoSaid : Prop := fnExactColourUnevenUptoRow.holds Tryd.pinned (OpenSpec.upto fnExactColourUnevenSpec)

end Rows
end Go.Proofs.YtckbhhaigpajpaaDoor
