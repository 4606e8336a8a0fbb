/-
  NARROWER THAN 'FOR EVERY INPUT', by the rows' own cells (each row's printed sentence says how): FnDegrees: laid · FnDual: laid · FnOrder: laid · FnColourLeast: laid · FnUneven: laid · FnMeetOrder: laid · FnExactEarOrder: laid · FnExactColourUneven: laid.
  DERIVED. THE GIVEN ROWS OF THIS SEAT. 8 by the template 'for every input the law returns true; each argument reads behind the call as it read before'; 0 by the template 'total and deterministic' (their statements: YtacglafoahmcnaaDoorTotals.lean).
  GIVEN WITH THE SEED: the statements are not yours to turn. If you find one false, say at which input.
  Laid BY PROGRAM, IN A SANDBOX (cutbox-rows.mjs): the forced cells as the released guide's own fill.sh prints them over the translation b9c5d2ae6aa1a380… (all of the seat's roots in one cut). By AI agents, Wed Nov 11 2026. No macro, syntax, notation, axiom, sorry.
-/
import Derived.Test.YtacglafoahmcnaaDoorChecked
import GoSem.Claim
import GoSem.ClaimJoined
import GoSem.ClaimMapViews
import Derived.JoinedTies
import Derived.KernelRfl
namespace Go.Proofs.YtacglafoahmcnaaDoor
/- THE CELL 'sum', in the pinned program and in every row, IS THE sha256 OF THE DUMP (.gsa) THAT YtacglafoahmcnaaDoorProg.lean LOADS. Nothing in Lean hashes anything: it is a label: what it is worth is what the hold of that sum in a sandbox is worth. -/
noncomputable def Tryd.pinned : Pinned := { name := "ytacglafoahmcnaadoor", sum := "b9c5d2ae6aa1a38070a1b90efd41aafcb68423ec87b2f97732bf4e8110ba850e", checked := Tryd.checked }
namespace Rows
def none {H : Type} : Left H := { results := [], args := [] }

/- WHAT THE LISTED PACKAGE-LEVEL VARIABLES READ AS WHEN THE CALL BEGINS. Each datum BY PROGRAM (the guide's laid-datum.mjs) off the statement by which the dump's own 'gosem.cut.vars' lays the variable. In a bare row this is a premise. The card (YtacglafoahmcnaaDoorCards.lean) ties it to the program's text. -/
def laid_math_bits_deBruijn32tab {H : Type} : DataW H := .agg [.lit (.int .u8 0), .lit (.int .u8 1), .lit (.int .u8 28), .lit (.int .u8 2), .lit (.int .u8 29), .lit (.int .u8 14), .lit (.int .u8 24), .lit (.int .u8 3), .lit (.int .u8 30), .lit (.int .u8 22), .lit (.int .u8 20), .lit (.int .u8 15), .lit (.int .u8 25), .lit (.int .u8 17), .lit (.int .u8 4), .lit (.int .u8 8), .lit (.int .u8 31), .lit (.int .u8 27), .lit (.int .u8 13), .lit (.int .u8 23), .lit (.int .u8 21), .lit (.int .u8 19), .lit (.int .u8 16), .lit (.int .u8 7), .lit (.int .u8 26), .lit (.int .u8 12), .lit (.int .u8 18), .lit (.int .u8 6), .lit (.int .u8 11), .lit (.int .u8 5), .lit (.int .u8 10), .lit (.int .u8 9)]
def laid_math_bits_deBruijn64tab {H : Type} : DataW H := .agg [.lit (.int .u8 0), .lit (.int .u8 1), .lit (.int .u8 56), .lit (.int .u8 2), .lit (.int .u8 57), .lit (.int .u8 49), .lit (.int .u8 28), .lit (.int .u8 3), .lit (.int .u8 61), .lit (.int .u8 58), .lit (.int .u8 42), .lit (.int .u8 50), .lit (.int .u8 38), .lit (.int .u8 29), .lit (.int .u8 17), .lit (.int .u8 4), .lit (.int .u8 62), .lit (.int .u8 47), .lit (.int .u8 59), .lit (.int .u8 36), .lit (.int .u8 45), .lit (.int .u8 43), .lit (.int .u8 51), .lit (.int .u8 22), .lit (.int .u8 53), .lit (.int .u8 39), .lit (.int .u8 33), .lit (.int .u8 30), .lit (.int .u8 24), .lit (.int .u8 18), .lit (.int .u8 12), .lit (.int .u8 5), .lit (.int .u8 63), .lit (.int .u8 55), .lit (.int .u8 48), .lit (.int .u8 27), .lit (.int .u8 60), .lit (.int .u8 41), .lit (.int .u8 37), .lit (.int .u8 16), .lit (.int .u8 46), .lit (.int .u8 35), .lit (.int .u8 44), .lit (.int .u8 21), .lit (.int .u8 52), .lit (.int .u8 32), .lit (.int .u8 23), .lit (.int .u8 11), .lit (.int .u8 54), .lit (.int .u8 26), .lit (.int .u8 40), .lit (.int .u8 15), .lit (.int .u8 34), .lit (.int .u8 20), .lit (.int .u8 31), .lit (.int .u8 10), .lit (.int .u8 25), .lit (.int .u8 14), .lit (.int .u8 19), .lit (.int .u8 9), .lit (.int .u8 13), .lit (.int .u8 8), .lit (.int .u8 7), .lit (.int .u8 6)]

/-- 'laws.FnDegrees': WHATEVER THE INPUT: true; the input reads as it did. -/
def fnDegreesSpec : ChangeSpec := { name := "fnDegrees", fn := fun _ => fun
  | [d] => { results := [.lit (.bool true)], args := [d] }
  | _ => none }
def fnDegreesRow : OpenClaim := { program := "ytacglafoahmcnaadoor", sum := "b9c5d2ae6aa1a38070a1b90efd41aafcb68423ec87b2f97732bf4e8110ba850e", func := "loop.example/clubsandmembers/laws.FnDegrees", spec := "fnDegrees", unfollowed := true, recurses := true, named := ["math/bits.deBruijn32tab", "math/bits.deBruijn64tab"], apart := false, laid := [("math/bits.deBruijn32tab", laid_math_bits_deBruijn32tab), ("math/bits.deBruijn64tab", laid_math_bits_deBruijn64tab)] }
def FnDegreesSaid : Prop := fnDegreesRow.holds Tryd.pinned (OpenSpec.ofChange fnDegreesSpec)

/-- ITS FALSE NEIGHBOUR: 'it returns false'. Refute it at one input. -/
def fnDegreesWrong : ChangeSpec := { name := "fnDegrees", fn := fun _ => fun
  | [d] => { results := [.lit (.bool false)], args := [d] }
  | _ => none }
def FnDegreesWrongFalsely : Prop := fnDegreesRow.holds Tryd.pinned (OpenSpec.ofChange fnDegreesWrong)

/-- 'laws.FnDual': WHATEVER THE INPUT: true; the input reads as it did. -/
def fnDualSpec : ChangeSpec := { name := "fnDual", fn := fun _ => fun
  | [d] => { results := [.lit (.bool true)], args := [d] }
  | _ => none }
def fnDualRow : OpenClaim := { program := "ytacglafoahmcnaadoor", sum := "b9c5d2ae6aa1a38070a1b90efd41aafcb68423ec87b2f97732bf4e8110ba850e", func := "loop.example/clubsandmembers/laws.FnDual", spec := "fnDual", unfollowed := true, recurses := true, named := ["math/bits.deBruijn32tab", "math/bits.deBruijn64tab"], apart := false, laid := [("math/bits.deBruijn32tab", laid_math_bits_deBruijn32tab), ("math/bits.deBruijn64tab", laid_math_bits_deBruijn64tab)] }
def FnDualSaid : Prop := fnDualRow.holds Tryd.pinned (OpenSpec.ofChange fnDualSpec)

/-- ITS FALSE NEIGHBOUR: 'it returns false'. Refute it at one input. -/
def fnDualWrong : ChangeSpec := { name := "fnDual", fn := fun _ => fun
  | [d] => { results := [.lit (.bool false)], args := [d] }
  | _ => none }
def FnDualWrongFalsely : Prop := fnDualRow.holds Tryd.pinned (OpenSpec.ofChange fnDualWrong)

/-- 'laws.FnOrder': WHATEVER THE INPUT: true; the input reads as it did. -/
def fnOrderSpec : ChangeSpec := { name := "fnOrder", fn := fun _ => fun
  | [d] => { results := [.lit (.bool true)], args := [d] }
  | _ => none }
def fnOrderRow : OpenClaim := { program := "ytacglafoahmcnaadoor", sum := "b9c5d2ae6aa1a38070a1b90efd41aafcb68423ec87b2f97732bf4e8110ba850e", func := "loop.example/clubsandmembers/laws.FnOrder", spec := "fnOrder", unfollowed := true, recurses := true, named := ["math/bits.deBruijn32tab", "math/bits.deBruijn64tab"], apart := false, laid := [("math/bits.deBruijn32tab", laid_math_bits_deBruijn32tab), ("math/bits.deBruijn64tab", laid_math_bits_deBruijn64tab)] }
def FnOrderSaid : Prop := fnOrderRow.holds Tryd.pinned (OpenSpec.ofChange fnOrderSpec)

/-- ITS FALSE NEIGHBOUR: 'it returns false'. Refute it at one input. -/
def fnOrderWrong : ChangeSpec := { name := "fnOrder", fn := fun _ => fun
  | [d] => { results := [.lit (.bool false)], args := [d] }
  | _ => none }
def FnOrderWrongFalsely : Prop := fnOrderRow.holds Tryd.pinned (OpenSpec.ofChange fnOrderWrong)

/-- 'laws.FnColourLeast': WHATEVER THE INPUT: true; the input reads as it did. -/
def fnColourLeastSpec : ChangeSpec := { name := "fnColourLeast", fn := fun _ => fun
  | [d] => { results := [.lit (.bool true)], args := [d] }
  | _ => none }
def fnColourLeastRow : OpenClaim := { program := "ytacglafoahmcnaadoor", sum := "b9c5d2ae6aa1a38070a1b90efd41aafcb68423ec87b2f97732bf4e8110ba850e", func := "loop.example/clubsandmembers/laws.FnColourLeast", spec := "fnColourLeast", unfollowed := true, recurses := true, named := ["math/bits.deBruijn32tab", "math/bits.deBruijn64tab"], apart := false, laid := [("math/bits.deBruijn32tab", laid_math_bits_deBruijn32tab), ("math/bits.deBruijn64tab", laid_math_bits_deBruijn64tab)] }
def FnColourLeastSaid : Prop := fnColourLeastRow.holds Tryd.pinned (OpenSpec.ofChange fnColourLeastSpec)

/-- ITS FALSE NEIGHBOUR: 'it returns false'. Refute it at one input. -/
def fnColourLeastWrong : ChangeSpec := { name := "fnColourLeast", fn := fun _ => fun
  | [d] => { results := [.lit (.bool false)], args := [d] }
  | _ => none }
def FnColourLeastWrongFalsely : Prop := fnColourLeastRow.holds Tryd.pinned (OpenSpec.ofChange fnColourLeastWrong)

/-- 'laws.FnUneven': WHATEVER THE INPUT: true; the input reads as it did. -/
def fnUnevenSpec : ChangeSpec := { name := "fnUneven", fn := fun _ => fun
  | [d] => { results := [.lit (.bool true)], args := [d] }
  | _ => none }
def fnUnevenRow : OpenClaim := { program := "ytacglafoahmcnaadoor", sum := "b9c5d2ae6aa1a38070a1b90efd41aafcb68423ec87b2f97732bf4e8110ba850e", func := "loop.example/clubsandmembers/laws.FnUneven", spec := "fnUneven", unfollowed := true, recurses := true, named := ["math/bits.deBruijn32tab", "math/bits.deBruijn64tab"], apart := false, laid := [("math/bits.deBruijn32tab", laid_math_bits_deBruijn32tab), ("math/bits.deBruijn64tab", laid_math_bits_deBruijn64tab)] }
def FnUnevenSaid : Prop := fnUnevenRow.holds Tryd.pinned (OpenSpec.ofChange fnUnevenSpec)

/-- ITS FALSE NEIGHBOUR: 'it returns false'. Refute it at one input. -/
def fnUnevenWrong : ChangeSpec := { name := "fnUneven", fn := fun _ => fun
  | [d] => { results := [.lit (.bool false)], args := [d] }
  | _ => none }
def FnUnevenWrongFalsely : Prop := fnUnevenRow.holds Tryd.pinned (OpenSpec.ofChange fnUnevenWrong)

/-- 'laws.FnMeetOrder': WHATEVER THE INPUT: true; the input reads as it did. -/
def fnMeetOrderSpec : ChangeSpec := { name := "fnMeetOrder", fn := fun _ => fun
  | [d] => { results := [.lit (.bool true)], args := [d] }
  | _ => none }
def fnMeetOrderRow : OpenClaim := { program := "ytacglafoahmcnaadoor", sum := "b9c5d2ae6aa1a38070a1b90efd41aafcb68423ec87b2f97732bf4e8110ba850e", func := "loop.example/clubsandmembers/laws.FnMeetOrder", spec := "fnMeetOrder", unfollowed := true, recurses := true, named := ["math/bits.deBruijn32tab", "math/bits.deBruijn64tab"], apart := false, laid := [("math/bits.deBruijn32tab", laid_math_bits_deBruijn32tab), ("math/bits.deBruijn64tab", laid_math_bits_deBruijn64tab)] }
def FnMeetOrderSaid : Prop := fnMeetOrderRow.holds Tryd.pinned (OpenSpec.ofChange fnMeetOrderSpec)

/-- ITS FALSE NEIGHBOUR: 'it returns false'. Refute it at one input. -/
def fnMeetOrderWrong : ChangeSpec := { name := "fnMeetOrder", fn := fun _ => fun
  | [d] => { results := [.lit (.bool false)], args := [d] }
  | _ => none }
def FnMeetOrderWrongFalsely : Prop := fnMeetOrderRow.holds Tryd.pinned (OpenSpec.ofChange fnMeetOrderWrong)

/-- 'laws.FnExactEarOrder': WHATEVER THE INPUT: true; the input reads as it did. -/
def fnExactEarOrderSpec : ChangeSpec := { name := "fnExactEarOrder", fn := fun _ => fun
  | [d] => { results := [.lit (.bool true)], args := [d] }
  | _ => none }
def fnExactEarOrderRow : OpenClaim := { program := "ytacglafoahmcnaadoor", sum := "b9c5d2ae6aa1a38070a1b90efd41aafcb68423ec87b2f97732bf4e8110ba850e", func := "loop.example/clubsandmembers/laws.FnExactEarOrder", spec := "fnExactEarOrder", unfollowed := true, recurses := true, named := ["math/bits.deBruijn32tab", "math/bits.deBruijn64tab"], apart := false, laid := [("math/bits.deBruijn32tab", laid_math_bits_deBruijn32tab), ("math/bits.deBruijn64tab", laid_math_bits_deBruijn64tab)] }
def FnExactEarOrderSaid : Prop := fnExactEarOrderRow.holds Tryd.pinned (OpenSpec.ofChange fnExactEarOrderSpec)

/-- ITS FALSE NEIGHBOUR: 'it returns false'. Refute it at one input. -/
def fnExactEarOrderWrong : ChangeSpec := { name := "fnExactEarOrder", fn := fun _ => fun
  | [d] => { results := [.lit (.bool false)], args := [d] }
  | _ => none }
def FnExactEarOrderWrongFalsely : Prop := fnExactEarOrderRow.holds Tryd.pinned (OpenSpec.ofChange fnExactEarOrderWrong)

/-- 'laws.FnExactColourUneven': WHATEVER THE INPUT: true; the input reads as it did. -/
def fnExactColourUnevenSpec : ChangeSpec := { name := "fnExactColourUneven", fn := fun _ => fun
  | [d] => { results := [.lit (.bool true)], args := [d] }
  | _ => none }
def fnExactColourUnevenRow : OpenClaim := { program := "ytacglafoahmcnaadoor", sum := "b9c5d2ae6aa1a38070a1b90efd41aafcb68423ec87b2f97732bf4e8110ba850e", func := "loop.example/clubsandmembers/laws.FnExactColourUneven", spec := "fnExactColourUneven", unfollowed := true, recurses := true, named := ["math/bits.deBruijn32tab", "math/bits.deBruijn64tab"], apart := false, laid := [("math/bits.deBruijn32tab", laid_math_bits_deBruijn32tab), ("math/bits.deBruijn64tab", laid_math_bits_deBruijn64tab)] }
def FnExactColourUnevenSaid : Prop := fnExactColourUnevenRow.holds Tryd.pinned (OpenSpec.ofChange fnExactColourUnevenSpec)

/-- ITS FALSE NEIGHBOUR: 'it returns false'. Refute it at one input. -/
def fnExactColourUnevenWrong : ChangeSpec := { name := "fnExactColourUneven", fn := fun _ => fun
  | [d] => { results := [.lit (.bool false)], args := [d] }
  | _ => none }
def FnExactColourUnevenWrongFalsely : Prop := fnExactColourUnevenRow.holds Tryd.pinned (OpenSpec.ofChange fnExactColourUnevenWrong)

/- THE SECOND FORM. 'bulk': how many values and letters a reading holds, each counted each time it is reached (what is shared counts as often as it is met; a slice's spare places count too). A statement '..UptoSaid' is the law's where the arguments, and the package variables that the reading takes, are together of bulk at most 1048576: NARROWER than '..Said'. Prove '..Said' where nothing that the law and all that it calls make is longer than what came in: it says more and counts as full. Else prove '..UptoSaid'. A law counts once. -/
mutual
def uptoBulk {H : Type} : DataW H → Nat
  | .lit (.string bytes) => bytes.length + 1
  | .lit _ => 1
  | .nil => 1
  | .ptr d => uptoBulk d + 1
  | .slice elems spare => uptoBulkAll elems + uptoBulkAll spare + 1
  | .agg parts => uptoBulkAll parts + 1
  | .iface _ d => uptoBulk d + 1
  | .map entries => uptoBulkEntries entries + 1
  | .held _ => 1
def uptoBulkAll {H : Type} : List (DataW H) → Nat
  | [] => 0
  | d :: r => uptoBulk d + uptoBulkAll r
def uptoBulkEntries {H : Type} : List (Lit × DataW H) → Nat
  | [] => 0
  | x :: r => uptoBulkEntry x + uptoBulkEntries r
def uptoBulkEntry {H : Type} : Lit × DataW H → Nat
  | (.string bytes, d) => bytes.length + uptoBulk d + 1
  | (_, d) => uptoBulk d + 1
 end
def uptoSmall : (H : Type) → List (DataW H) → Bool := fun _ ds => decide (uptoBulkAll ds ≤ 1048576)
def OpenSpec.upto (s : _root_.Go.ChangeSpec) : _root_.Go.OpenSpec := { _root_.Go.OpenSpec.ofChange s with cond := some uptoSmall }

/-- 'laws.FnDegrees', WHERE WHAT IT READS IS OF BULK AT MOST 1048576: true; the input reads as it did. -/
def fnDegreesUptoRow : OpenClaim := { program := "ytacglafoahmcnaadoor", sum := "b9c5d2ae6aa1a38070a1b90efd41aafcb68423ec87b2f97732bf4e8110ba850e", func := "loop.example/clubsandmembers/laws.FnDegrees", spec := "fnDegrees", unfollowed := true, recurses := true, named := ["math/bits.deBruijn32tab", "math/bits.deBruijn64tab"], apart := false, laid := [("math/bits.deBruijn32tab", laid_math_bits_deBruijn32tab), ("math/bits.deBruijn64tab", laid_math_bits_deBruijn64tab)], narrowed := true }
def FnDegreesUptoSaid : Prop := fnDegreesUptoRow.holds Tryd.pinned (OpenSpec.upto fnDegreesSpec)

/-- 'laws.FnDual', WHERE WHAT IT READS IS OF BULK AT MOST 1048576: true; the input reads as it did. -/
def fnDualUptoRow : OpenClaim := { program := "ytacglafoahmcnaadoor", sum := "b9c5d2ae6aa1a38070a1b90efd41aafcb68423ec87b2f97732bf4e8110ba850e", func := "loop.example/clubsandmembers/laws.FnDual", spec := "fnDual", unfollowed := true, recurses := true, named := ["math/bits.deBruijn32tab", "math/bits.deBruijn64tab"], apart := false, laid := [("math/bits.deBruijn32tab", laid_math_bits_deBruijn32tab), ("math/bits.deBruijn64tab", laid_math_bits_deBruijn64tab)], narrowed := true }
def FnDualUptoSaid : Prop := fnDualUptoRow.holds Tryd.pinned (OpenSpec.upto fnDualSpec)

/-- 'laws.FnOrder', WHERE WHAT IT READS IS OF BULK AT MOST 1048576: true; the input reads as it did. -/
def fnOrderUptoRow : OpenClaim := { program := "ytacglafoahmcnaadoor", sum := "b9c5d2ae6aa1a38070a1b90efd41aafcb68423ec87b2f97732bf4e8110ba850e", func := "loop.example/clubsandmembers/laws.FnOrder", spec := "fnOrder", unfollowed := true, recurses := true, named := ["math/bits.deBruijn32tab", "math/bits.deBruijn64tab"], apart := false, laid := [("math/bits.deBruijn32tab", laid_math_bits_deBruijn32tab), ("math/bits.deBruijn64tab", laid_math_bits_deBruijn64tab)], narrowed := true }
def FnOrderUptoSaid : Prop := fnOrderUptoRow.holds Tryd.pinned (OpenSpec.upto fnOrderSpec)

/-- 'laws.FnColourLeast', WHERE WHAT IT READS IS OF BULK AT MOST 1048576: true; the input reads as it did. -/
def fnColourLeastUptoRow : OpenClaim := { program := "ytacglafoahmcnaadoor", sum := "b9c5d2ae6aa1a38070a1b90efd41aafcb68423ec87b2f97732bf4e8110ba850e", func := "loop.example/clubsandmembers/laws.FnColourLeast", spec := "fnColourLeast", unfollowed := true, recurses := true, named := ["math/bits.deBruijn32tab", "math/bits.deBruijn64tab"], apart := false, laid := [("math/bits.deBruijn32tab", laid_math_bits_deBruijn32tab), ("math/bits.deBruijn64tab", laid_math_bits_deBruijn64tab)], narrowed := true }
def FnColourLeastUptoSaid : Prop := fnColourLeastUptoRow.holds Tryd.pinned (OpenSpec.upto fnColourLeastSpec)

/-- 'laws.FnUneven', WHERE WHAT IT READS IS OF BULK AT MOST 1048576: true; the input reads as it did. -/
def fnUnevenUptoRow : OpenClaim := { program := "ytacglafoahmcnaadoor", sum := "b9c5d2ae6aa1a38070a1b90efd41aafcb68423ec87b2f97732bf4e8110ba850e", func := "loop.example/clubsandmembers/laws.FnUneven", spec := "fnUneven", unfollowed := true, recurses := true, named := ["math/bits.deBruijn32tab", "math/bits.deBruijn64tab"], apart := false, laid := [("math/bits.deBruijn32tab", laid_math_bits_deBruijn32tab), ("math/bits.deBruijn64tab", laid_math_bits_deBruijn64tab)], narrowed := true }
def FnUnevenUptoSaid : Prop := fnUnevenUptoRow.holds Tryd.pinned (OpenSpec.upto fnUnevenSpec)

/-- 'laws.FnMeetOrder', WHERE WHAT IT READS IS OF BULK AT MOST 1048576: true; the input reads as it did. -/
def fnMeetOrderUptoRow : OpenClaim := { program := "ytacglafoahmcnaadoor", sum := "b9c5d2ae6aa1a38070a1b90efd41aafcb68423ec87b2f97732bf4e8110ba850e", func := "loop.example/clubsandmembers/laws.FnMeetOrder", spec := "fnMeetOrder", unfollowed := true, recurses := true, named := ["math/bits.deBruijn32tab", "math/bits.deBruijn64tab"], apart := false, laid := [("math/bits.deBruijn32tab", laid_math_bits_deBruijn32tab), ("math/bits.deBruijn64tab", laid_math_bits_deBruijn64tab)], narrowed := true }
def FnMeetOrderUptoSaid : Prop := fnMeetOrderUptoRow.holds Tryd.pinned (OpenSpec.upto fnMeetOrderSpec)

/-- 'laws.FnExactEarOrder', WHERE WHAT IT READS IS OF BULK AT MOST 1048576: true; the input reads as it did. -/
def fnExactEarOrderUptoRow : OpenClaim := { program := "ytacglafoahmcnaadoor", sum := "b9c5d2ae6aa1a38070a1b90efd41aafcb68423ec87b2f97732bf4e8110ba850e", func := "loop.example/clubsandmembers/laws.FnExactEarOrder", spec := "fnExactEarOrder", unfollowed := true, recurses := true, named := ["math/bits.deBruijn32tab", "math/bits.deBruijn64tab"], apart := false, laid := [("math/bits.deBruijn32tab", laid_math_bits_deBruijn32tab), ("math/bits.deBruijn64tab", laid_math_bits_deBruijn64tab)], narrowed := true }
def FnExactEarOrderUptoSaid : Prop := fnExactEarOrderUptoRow.holds Tryd.pinned (OpenSpec.upto fnExactEarOrderSpec)

/-- 'laws.FnExactColourUneven', WHERE WHAT IT READS IS OF BULK AT MOST 1048576: true; the input reads as it did. -/
def fnExactColourUnevenUptoRow : OpenClaim := { program := "ytacglafoahmcnaadoor", sum := "b9c5d2ae6aa1a38070a1b90efd41aafcb68423ec87b2f97732bf4e8110ba850e", func := "loop.example/clubsandmembers/laws.FnExactColourUneven", spec := "fnExactColourUneven", unfollowed := true, recurses := true, named := ["math/bits.deBruijn32tab", "math/bits.deBruijn64tab"], apart := false, laid := [("math/bits.deBruijn32tab", laid_math_bits_deBruijn32tab), ("math/bits.deBruijn64tab", laid_math_bits_deBruijn64tab)], narrowed := true }
def FnExactColourUnevenUptoSaid : Prop := fnExactColourUnevenUptoRow.holds Tryd.pinned (OpenSpec.upto fnExactColourUnevenSpec)

end Rows
end Go.Proofs.YtacglafoahmcnaaDoor
