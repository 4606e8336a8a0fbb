/-
  NARROWER THAN 'FOR EVERY INPUT', by the rows' own cells (each row's printed sentence says how): FnExactFamilyDual: laid · FnExactMeetClubs: laid · FnExactMeetHelly: laid · FnExactMeetFull: laid · FnExactMeetOrder: laid · FnExactMeetMost: laid · FnExactMeetStars: laid.
  DERIVED. THE GIVEN ROWS OF THIS SEAT. 7 by the template 'for every input the law returns true; each argument reads behind the call as it read before'; 0 by the template 'total and deterministic' (their statements: YtgjcjllhkkkioaaDoorTotals.lean).
  GIVEN WITH THE SEED: the statements are not yours to turn. If you find one false, say at which input.
  Laid BY PROGRAM, IN A SANDBOX (cutbox-rows.mjs): the forced cells as the released guide's own fill.sh prints them over the translation beacce0e77668853… (all of the seat's roots in one cut). By AI agents, Wed Nov 11 2026. No macro, syntax, notation, axiom, sorry.
-/
import Derived.Test.YtgjcjllhkkkioaaDoorChecked
import GoSem.Claim
import GoSem.ClaimJoined
import GoSem.ClaimMapViews
import Derived.JoinedTies
import Derived.KernelRfl
namespace Go.Proofs.YtgjcjllhkkkioaaDoor
/- THE CELL 'sum', in the pinned program and in every row, IS THE sha256 OF THE DUMP (.gsa) THAT YtgjcjllhkkkioaaDoorProg.lean LOADS. Nothing in Lean hashes anything: it is a label: what it is worth is what the hold of that sum in a sandbox is worth. -/
noncomputable def Tryd.pinned : Pinned := { name := "ytgjcjllhkkkioaadoor", sum := "beacce0e77668853105e0dec3f9d236f23592a64970e14cbf28342c75b6faed7", checked := Tryd.checked }
namespace Rows
def none {H : Type} : Left H := { results := [], args := [] }

/- WHAT THE LISTED PACKAGE-LEVEL VARIABLES READ AS WHEN THE CALL BEGINS. Each datum BY PROGRAM (the guide's laid-datum.mjs) off the statement by which the dump's own 'gosem.cut.vars' lays the variable. In a bare row this is a premise. The card (YtgjcjllhkkkioaaDoorCards.lean) ties it to the program's text. -/
def laid_math_bits_deBruijn32tab {H : Type} : DataW H := .agg [.lit (.int .u8 0), .lit (.int .u8 1), .lit (.int .u8 28), .lit (.int .u8 2), .lit (.int .u8 29), .lit (.int .u8 14), .lit (.int .u8 24), .lit (.int .u8 3), .lit (.int .u8 30), .lit (.int .u8 22), .lit (.int .u8 20), .lit (.int .u8 15), .lit (.int .u8 25), .lit (.int .u8 17), .lit (.int .u8 4), .lit (.int .u8 8), .lit (.int .u8 31), .lit (.int .u8 27), .lit (.int .u8 13), .lit (.int .u8 23), .lit (.int .u8 21), .lit (.int .u8 19), .lit (.int .u8 16), .lit (.int .u8 7), .lit (.int .u8 26), .lit (.int .u8 12), .lit (.int .u8 18), .lit (.int .u8 6), .lit (.int .u8 11), .lit (.int .u8 5), .lit (.int .u8 10), .lit (.int .u8 9)]
def laid_math_bits_deBruijn64tab {H : Type} : DataW H := .agg [.lit (.int .u8 0), .lit (.int .u8 1), .lit (.int .u8 56), .lit (.int .u8 2), .lit (.int .u8 57), .lit (.int .u8 49), .lit (.int .u8 28), .lit (.int .u8 3), .lit (.int .u8 61), .lit (.int .u8 58), .lit (.int .u8 42), .lit (.int .u8 50), .lit (.int .u8 38), .lit (.int .u8 29), .lit (.int .u8 17), .lit (.int .u8 4), .lit (.int .u8 62), .lit (.int .u8 47), .lit (.int .u8 59), .lit (.int .u8 36), .lit (.int .u8 45), .lit (.int .u8 43), .lit (.int .u8 51), .lit (.int .u8 22), .lit (.int .u8 53), .lit (.int .u8 39), .lit (.int .u8 33), .lit (.int .u8 30), .lit (.int .u8 24), .lit (.int .u8 18), .lit (.int .u8 12), .lit (.int .u8 5), .lit (.int .u8 63), .lit (.int .u8 55), .lit (.int .u8 48), .lit (.int .u8 27), .lit (.int .u8 60), .lit (.int .u8 41), .lit (.int .u8 37), .lit (.int .u8 16), .lit (.int .u8 46), .lit (.int .u8 35), .lit (.int .u8 44), .lit (.int .u8 21), .lit (.int .u8 52), .lit (.int .u8 32), .lit (.int .u8 23), .lit (.int .u8 11), .lit (.int .u8 54), .lit (.int .u8 26), .lit (.int .u8 40), .lit (.int .u8 15), .lit (.int .u8 34), .lit (.int .u8 20), .lit (.int .u8 31), .lit (.int .u8 10), .lit (.int .u8 25), .lit (.int .u8 14), .lit (.int .u8 19), .lit (.int .u8 9), .lit (.int .u8 13), .lit (.int .u8 8), .lit (.int .u8 7), .lit (.int .u8 6)]

/-- 'laws.FnExactFamilyDual': WHATEVER THE INPUT: true; the input reads as it did. -/
def fnExactFamilyDualSpec : ChangeSpec := { name := "fnExactFamilyDual", fn := fun _ => fun
  | [d] => { results := [.lit (.bool true)], args := [d] }
  | _ => none }
def fnExactFamilyDualRow : OpenClaim := { program := "ytgjcjllhkkkioaadoor", sum := "beacce0e77668853105e0dec3f9d236f23592a64970e14cbf28342c75b6faed7", func := "loop.example/clubsandmembers/laws.FnExactFamilyDual", spec := "fnExactFamilyDual", unfollowed := true, recurses := true, named := ["math/bits.deBruijn32tab", "math/bits.deBruijn64tab"], apart := false, laid := [("math/bits.deBruijn32tab", laid_math_bits_deBruijn32tab), ("math/bits.deBruijn64tab", laid_math_bits_deBruijn64tab)] }
def FnExactFamilyDualSaid : Prop := fnExactFamilyDualRow.holds Tryd.pinned (OpenSpec.ofChange fnExactFamilyDualSpec)

/-- ITS FALSE NEIGHBOUR: 'it returns false'. Refute it at one input. -/
def fnExactFamilyDualWrong : ChangeSpec := { name := "fnExactFamilyDual", fn := fun _ => fun
  | [d] => { results := [.lit (.bool false)], args := [d] }
  | _ => none }
def FnExactFamilyDualWrongFalsely : Prop := fnExactFamilyDualRow.holds Tryd.pinned (OpenSpec.ofChange fnExactFamilyDualWrong)

/-- 'laws.FnExactMeetClubs': WHATEVER THE INPUT: true; the input reads as it did. -/
def fnExactMeetClubsSpec : ChangeSpec := { name := "fnExactMeetClubs", fn := fun _ => fun
  | [d] => { results := [.lit (.bool true)], args := [d] }
  | _ => none }
def fnExactMeetClubsRow : OpenClaim := { program := "ytgjcjllhkkkioaadoor", sum := "beacce0e77668853105e0dec3f9d236f23592a64970e14cbf28342c75b6faed7", func := "loop.example/clubsandmembers/laws.FnExactMeetClubs", spec := "fnExactMeetClubs", unfollowed := true, recurses := true, named := ["math/bits.deBruijn32tab", "math/bits.deBruijn64tab"], apart := false, laid := [("math/bits.deBruijn32tab", laid_math_bits_deBruijn32tab), ("math/bits.deBruijn64tab", laid_math_bits_deBruijn64tab)] }
def FnExactMeetClubsSaid : Prop := fnExactMeetClubsRow.holds Tryd.pinned (OpenSpec.ofChange fnExactMeetClubsSpec)

/-- ITS FALSE NEIGHBOUR: 'it returns false'. Refute it at one input. -/
def fnExactMeetClubsWrong : ChangeSpec := { name := "fnExactMeetClubs", fn := fun _ => fun
  | [d] => { results := [.lit (.bool false)], args := [d] }
  | _ => none }
def FnExactMeetClubsWrongFalsely : Prop := fnExactMeetClubsRow.holds Tryd.pinned (OpenSpec.ofChange fnExactMeetClubsWrong)

/-- 'laws.FnExactMeetHelly': WHATEVER THE INPUT: true; the input reads as it did. -/
def fnExactMeetHellySpec : ChangeSpec := { name := "fnExactMeetHelly", fn := fun _ => fun
  | [d] => { results := [.lit (.bool true)], args := [d] }
  | _ => none }
def fnExactMeetHellyRow : OpenClaim := { program := "ytgjcjllhkkkioaadoor", sum := "beacce0e77668853105e0dec3f9d236f23592a64970e14cbf28342c75b6faed7", func := "loop.example/clubsandmembers/laws.FnExactMeetHelly", spec := "fnExactMeetHelly", unfollowed := true, recurses := true, named := ["math/bits.deBruijn32tab", "math/bits.deBruijn64tab"], apart := false, laid := [("math/bits.deBruijn32tab", laid_math_bits_deBruijn32tab), ("math/bits.deBruijn64tab", laid_math_bits_deBruijn64tab)] }
def FnExactMeetHellySaid : Prop := fnExactMeetHellyRow.holds Tryd.pinned (OpenSpec.ofChange fnExactMeetHellySpec)

/-- ITS FALSE NEIGHBOUR: 'it returns false'. Refute it at one input. -/
def fnExactMeetHellyWrong : ChangeSpec := { name := "fnExactMeetHelly", fn := fun _ => fun
  | [d] => { results := [.lit (.bool false)], args := [d] }
  | _ => none }
def FnExactMeetHellyWrongFalsely : Prop := fnExactMeetHellyRow.holds Tryd.pinned (OpenSpec.ofChange fnExactMeetHellyWrong)

/-- 'laws.FnExactMeetFull': WHATEVER THE INPUT: true; the input reads as it did. -/
def fnExactMeetFullSpec : ChangeSpec := { name := "fnExactMeetFull", fn := fun _ => fun
  | [d] => { results := [.lit (.bool true)], args := [d] }
  | _ => none }
def fnExactMeetFullRow : OpenClaim := { program := "ytgjcjllhkkkioaadoor", sum := "beacce0e77668853105e0dec3f9d236f23592a64970e14cbf28342c75b6faed7", func := "loop.example/clubsandmembers/laws.FnExactMeetFull", spec := "fnExactMeetFull", unfollowed := true, recurses := true, named := ["math/bits.deBruijn32tab", "math/bits.deBruijn64tab"], apart := false, laid := [("math/bits.deBruijn32tab", laid_math_bits_deBruijn32tab), ("math/bits.deBruijn64tab", laid_math_bits_deBruijn64tab)] }
def FnExactMeetFullSaid : Prop := fnExactMeetFullRow.holds Tryd.pinned (OpenSpec.ofChange fnExactMeetFullSpec)

/-- ITS FALSE NEIGHBOUR: 'it returns false'. Refute it at one input. -/
def fnExactMeetFullWrong : ChangeSpec := { name := "fnExactMeetFull", fn := fun _ => fun
  | [d] => { results := [.lit (.bool false)], args := [d] }
  | _ => none }
def FnExactMeetFullWrongFalsely : Prop := fnExactMeetFullRow.holds Tryd.pinned (OpenSpec.ofChange fnExactMeetFullWrong)

/-- 'laws.FnExactMeetOrder': WHATEVER THE INPUT: true; the input reads as it did. -/
def fnExactMeetOrderSpec : ChangeSpec := { name := "fnExactMeetOrder", fn := fun _ => fun
  | [d] => { results := [.lit (.bool true)], args := [d] }
  | _ => none }
def fnExactMeetOrderRow : OpenClaim := { program := "ytgjcjllhkkkioaadoor", sum := "beacce0e77668853105e0dec3f9d236f23592a64970e14cbf28342c75b6faed7", func := "loop.example/clubsandmembers/laws.FnExactMeetOrder", spec := "fnExactMeetOrder", unfollowed := true, recurses := true, named := ["math/bits.deBruijn32tab", "math/bits.deBruijn64tab"], apart := false, laid := [("math/bits.deBruijn32tab", laid_math_bits_deBruijn32tab), ("math/bits.deBruijn64tab", laid_math_bits_deBruijn64tab)] }
def FnExactMeetOrderSaid : Prop := fnExactMeetOrderRow.holds Tryd.pinned (OpenSpec.ofChange fnExactMeetOrderSpec)

/-- ITS FALSE NEIGHBOUR: 'it returns false'. Refute it at one input. -/
def fnExactMeetOrderWrong : ChangeSpec := { name := "fnExactMeetOrder", fn := fun _ => fun
  | [d] => { results := [.lit (.bool false)], args := [d] }
  | _ => none }
def FnExactMeetOrderWrongFalsely : Prop := fnExactMeetOrderRow.holds Tryd.pinned (OpenSpec.ofChange fnExactMeetOrderWrong)

/-- 'laws.FnExactMeetMost': WHATEVER THE INPUT: true; the input reads as it did. -/
def fnExactMeetMostSpec : ChangeSpec := { name := "fnExactMeetMost", fn := fun _ => fun
  | [d] => { results := [.lit (.bool true)], args := [d] }
  | _ => none }
def fnExactMeetMostRow : OpenClaim := { program := "ytgjcjllhkkkioaadoor", sum := "beacce0e77668853105e0dec3f9d236f23592a64970e14cbf28342c75b6faed7", func := "loop.example/clubsandmembers/laws.FnExactMeetMost", spec := "fnExactMeetMost", unfollowed := true, recurses := true, named := ["math/bits.deBruijn32tab", "math/bits.deBruijn64tab"], apart := false, laid := [("math/bits.deBruijn32tab", laid_math_bits_deBruijn32tab), ("math/bits.deBruijn64tab", laid_math_bits_deBruijn64tab)] }
def FnExactMeetMostSaid : Prop := fnExactMeetMostRow.holds Tryd.pinned (OpenSpec.ofChange fnExactMeetMostSpec)

/-- ITS FALSE NEIGHBOUR: 'it returns false'. Refute it at one input. -/
def fnExactMeetMostWrong : ChangeSpec := { name := "fnExactMeetMost", fn := fun _ => fun
  | [d] => { results := [.lit (.bool false)], args := [d] }
  | _ => none }
def FnExactMeetMostWrongFalsely : Prop := fnExactMeetMostRow.holds Tryd.pinned (OpenSpec.ofChange fnExactMeetMostWrong)

/-- 'laws.FnExactMeetStars': WHATEVER THE INPUT: true; the input reads as it did. -/
def fnExactMeetStarsSpec : ChangeSpec := { name := "fnExactMeetStars", fn := fun _ => fun
  | [d] => { results := [.lit (.bool true)], args := [d] }
  | _ => none }
def fnExactMeetStarsRow : OpenClaim := { program := "ytgjcjllhkkkioaadoor", sum := "beacce0e77668853105e0dec3f9d236f23592a64970e14cbf28342c75b6faed7", func := "loop.example/clubsandmembers/laws.FnExactMeetStars", spec := "fnExactMeetStars", unfollowed := true, recurses := true, named := ["math/bits.deBruijn32tab", "math/bits.deBruijn64tab"], apart := false, laid := [("math/bits.deBruijn32tab", laid_math_bits_deBruijn32tab), ("math/bits.deBruijn64tab", laid_math_bits_deBruijn64tab)] }
def FnExactMeetStarsSaid : Prop := fnExactMeetStarsRow.holds Tryd.pinned (OpenSpec.ofChange fnExactMeetStarsSpec)

/-- ITS FALSE NEIGHBOUR: 'it returns false'. Refute it at one input. -/
def fnExactMeetStarsWrong : ChangeSpec := { name := "fnExactMeetStars", fn := fun _ => fun
  | [d] => { results := [.lit (.bool false)], args := [d] }
  | _ => none }
def FnExactMeetStarsWrongFalsely : Prop := fnExactMeetStarsRow.holds Tryd.pinned (OpenSpec.ofChange fnExactMeetStarsWrong)

/- THE SECOND FORM. 'bulk': how many values and letters a reading holds, each counted each time it is reached (what is shared counts as often as it is met; a slice's spare places count too). A statement '..UptoSaid' is the law's where the arguments, and the package variables that the reading takes, are together of bulk at most 1048576: NARROWER than '..Said'. Prove '..Said' where nothing that the law and all that it calls make is longer than what came in: it says more and counts as full. Else prove '..UptoSaid'. A law counts once. -/
mutual
def uptoBulk {H : Type} : DataW H → Nat
  | .lit (.string bytes) => bytes.length + 1
  | .lit _ => 1
  | .nil => 1
  | .ptr d => uptoBulk d + 1
  | .slice elems spare => uptoBulkAll elems + uptoBulkAll spare + 1
  | .agg parts => uptoBulkAll parts + 1
  | .iface _ d => uptoBulk d + 1
  | .map entries => uptoBulkEntries entries + 1
  | .held _ => 1
def uptoBulkAll {H : Type} : List (DataW H) → Nat
  | [] => 0
  | d :: r => uptoBulk d + uptoBulkAll r
def uptoBulkEntries {H : Type} : List (Lit × DataW H) → Nat
  | [] => 0
  | x :: r => uptoBulkEntry x + uptoBulkEntries r
def uptoBulkEntry {H : Type} : Lit × DataW H → Nat
  | (.string bytes, d) => bytes.length + uptoBulk d + 1
  | (_, d) => uptoBulk d + 1
 end
def uptoSmall : (H : Type) → List (DataW H) → Bool := fun _ ds => decide (uptoBulkAll ds ≤ 1048576)
def OpenSpec.upto (s : _root_.Go.ChangeSpec) : _root_.Go.OpenSpec := { _root_.Go.OpenSpec.ofChange s with cond := some uptoSmall }

/-- 'laws.FnExactFamilyDual', WHERE WHAT IT READS IS OF BULK AT MOST 1048576: true; the input reads as it did. -/
def fnExactFamilyDualUptoRow : OpenClaim := { program := "ytgjcjllhkkkioaadoor", sum := "beacce0e77668853105e0dec3f9d236f23592a64970e14cbf28342c75b6faed7", func := "loop.example/clubsandmembers/laws.FnExactFamilyDual", spec := "fnExactFamilyDual", unfollowed := true, recurses := true, named := ["math/bits.deBruijn32tab", "math/bits.deBruijn64tab"], apart := false, laid := [("math/bits.deBruijn32tab", laid_math_bits_deBruijn32tab), ("math/bits.deBruijn64tab", laid_math_bits_deBruijn64tab)], narrowed := true }
def FnExactFamilyDualUptoSaid : Prop := fnExactFamilyDualUptoRow.holds Tryd.pinned (OpenSpec.upto fnExactFamilyDualSpec)

/-- 'laws.FnExactMeetClubs', WHERE WHAT IT READS IS OF BULK AT MOST 1048576: true; the input reads as it did. -/
def fnExactMeetClubsUptoRow : OpenClaim := { program := "ytgjcjllhkkkioaadoor", sum := "beacce0e77668853105e0dec3f9d236f23592a64970e14cbf28342c75b6faed7", func := "loop.example/clubsandmembers/laws.FnExactMeetClubs", spec := "fnExactMeetClubs", unfollowed := true, recurses := true, named := ["math/bits.deBruijn32tab", "math/bits.deBruijn64tab"], apart := false, laid := [("math/bits.deBruijn32tab", laid_math_bits_deBruijn32tab), ("math/bits.deBruijn64tab", laid_math_bits_deBruijn64tab)], narrowed := true }
def FnExactMeetClubsUptoSaid : Prop := fnExactMeetClubsUptoRow.holds Tryd.pinned (OpenSpec.upto fnExactMeetClubsSpec)

/-- 'laws.FnExactMeetHelly', WHERE WHAT IT READS IS OF BULK AT MOST 1048576: true; the input reads as it did. -/
def fnExactMeetHellyUptoRow : OpenClaim := { program := "ytgjcjllhkkkioaadoor", sum := "beacce0e77668853105e0dec3f9d236f23592a64970e14cbf28342c75b6faed7", func := "loop.example/clubsandmembers/laws.FnExactMeetHelly", spec := "fnExactMeetHelly", unfollowed := true, recurses := true, named := ["math/bits.deBruijn32tab", "math/bits.deBruijn64tab"], apart := false, laid := [("math/bits.deBruijn32tab", laid_math_bits_deBruijn32tab), ("math/bits.deBruijn64tab", laid_math_bits_deBruijn64tab)], narrowed := true }
def FnExactMeetHellyUptoSaid : Prop := fnExactMeetHellyUptoRow.holds Tryd.pinned (OpenSpec.upto fnExactMeetHellySpec)

/-- 'laws.FnExactMeetFull', WHERE WHAT IT READS IS OF BULK AT MOST 1048576: true; the input reads as it did. -/
def fnExactMeetFullUptoRow : OpenClaim := { program := "ytgjcjllhkkkioaadoor", sum := "beacce0e77668853105e0dec3f9d236f23592a64970e14cbf28342c75b6faed7", func := "loop.example/clubsandmembers/laws.FnExactMeetFull", spec := "fnExactMeetFull", unfollowed := true, recurses := true, named := ["math/bits.deBruijn32tab", "math/bits.deBruijn64tab"], apart := false, laid := [("math/bits.deBruijn32tab", laid_math_bits_deBruijn32tab), ("math/bits.deBruijn64tab", laid_math_bits_deBruijn64tab)], narrowed := true }
def FnExactMeetFullUptoSaid : Prop := fnExactMeetFullUptoRow.holds Tryd.pinned (OpenSpec.upto fnExactMeetFullSpec)

/-- 'laws.FnExactMeetOrder', WHERE WHAT IT READS IS OF BULK AT MOST 1048576: true; the input reads as it did. -/
def fnExactMeetOrderUptoRow : OpenClaim := { program := "ytgjcjllhkkkioaadoor", sum := "beacce0e77668853105e0dec3f9d236f23592a64970e14cbf28342c75b6faed7", func := "loop.example/clubsandmembers/laws.FnExactMeetOrder", spec := "fnExactMeetOrder", unfollowed := true, recurses := true, named := ["math/bits.deBruijn32tab", "math/bits.deBruijn64tab"], apart := false, laid := [("math/bits.deBruijn32tab", laid_math_bits_deBruijn32tab), ("math/bits.deBruijn64tab", laid_math_bits_deBruijn64tab)], narrowed := true }
def FnExactMeetOrderUptoSaid : Prop := fnExactMeetOrderUptoRow.holds Tryd.pinned (OpenSpec.upto fnExactMeetOrderSpec)

/-- 'laws.FnExactMeetMost', WHERE WHAT IT READS IS OF BULK AT MOST 1048576: true; the input reads as it did. -/
def fnExactMeetMostUptoRow : OpenClaim := { program := "ytgjcjllhkkkioaadoor", sum := "beacce0e77668853105e0dec3f9d236f23592a64970e14cbf28342c75b6faed7", func := "loop.example/clubsandmembers/laws.FnExactMeetMost", spec := "fnExactMeetMost", unfollowed := true, recurses := true, named := ["math/bits.deBruijn32tab", "math/bits.deBruijn64tab"], apart := false, laid := [("math/bits.deBruijn32tab", laid_math_bits_deBruijn32tab), ("math/bits.deBruijn64tab", laid_math_bits_deBruijn64tab)], narrowed := true }
def FnExactMeetMostUptoSaid : Prop := fnExactMeetMostUptoRow.holds Tryd.pinned (OpenSpec.upto fnExactMeetMostSpec)

/-- 'laws.FnExactMeetStars', WHERE WHAT IT READS IS OF BULK AT MOST 1048576: true; the input reads as it did. -/
def fnExactMeetStarsUptoRow : OpenClaim := { program := "ytgjcjllhkkkioaadoor", sum := "beacce0e77668853105e0dec3f9d236f23592a64970e14cbf28342c75b6faed7", func := "loop.example/clubsandmembers/laws.FnExactMeetStars", spec := "fnExactMeetStars", unfollowed := true, recurses := true, named := ["math/bits.deBruijn32tab", "math/bits.deBruijn64tab"], apart := false, laid := [("math/bits.deBruijn32tab", laid_math_bits_deBruijn32tab), ("math/bits.deBruijn64tab", laid_math_bits_deBruijn64tab)], narrowed := true }
def FnExactMeetStarsUptoSaid : Prop := fnExactMeetStarsUptoRow.holds Tryd.pinned (OpenSpec.upto fnExactMeetStarsSpec)

end Rows
end Go.Proofs.YtgjcjllhkkkioaaDoor
