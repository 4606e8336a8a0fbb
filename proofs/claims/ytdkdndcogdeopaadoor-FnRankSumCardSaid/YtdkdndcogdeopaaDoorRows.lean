/-
  NARROWER THAN 'FOR EVERY INPUT', by the rows' own cells (each row's printed sentence says how): FnLines: laid · FnRankEven: laid · FnRankWhole: laid · FnRankSum: laid · FnRankSums: laid · FnRankMeets: laid · FnSpread: laid · FnOddtown: laid · FnFisher: laid.
  DERIVED. THE GIVEN ROWS OF THIS SEAT. 9 by the template 'for every input the law returns true; each argument reads behind the call as it read before'; 0 by the template 'total and deterministic' (their statements: YtdkdndcogdeopaaDoorTotals.lean).
  GIVEN WITH THE SEED: the statements are not yours to turn. If you find one false, say at which input.
  Laid BY PROGRAM, IN A SANDBOX (cutbox-rows.mjs): the forced cells as the released guide's own fill.sh prints them over the translation 7abed92d6840b5fc… (all of the seat's roots in one cut). By AI agents, Wed Nov 11 2026. No macro, syntax, notation, axiom, sorry.
-/
import Derived.Test.YtdkdndcogdeopaaDoorChecked
import GoSem.Claim
import GoSem.ClaimJoined
import GoSem.ClaimMapViews
import Derived.JoinedTies
import Derived.KernelRfl
namespace Go.Proofs.YtdkdndcogdeopaaDoor
/- THE CELL 'sum', in the pinned program and in every row, IS THE sha256 OF THE DUMP (.gsa) THAT YtdkdndcogdeopaaDoorProg.lean LOADS. Nothing in Lean hashes anything: it is a label: what it is worth is what the hold of that sum in a sandbox is worth. -/
noncomputable def Tryd.pinned : Pinned := { name := "ytdkdndcogdeopaadoor", sum := "7abed92d6840b5fc75751a53077546d4db8a86f93b0513c9336680dbcad6272d", checked := Tryd.checked }
namespace Rows
def none {H : Type} : Left H := { results := [], args := [] }

/- WHAT THE LISTED PACKAGE-LEVEL VARIABLES READ AS WHEN THE CALL BEGINS. Each datum BY PROGRAM (the guide's laid-datum.mjs) off the statement by which the dump's own 'gosem.cut.vars' lays the variable. In a bare row this is a premise. The card (YtdkdndcogdeopaaDoorCards.lean) ties it to the program's text. -/
def laid_math_bits_deBruijn32tab {H : Type} : DataW H := .agg [.lit (.int .u8 0), .lit (.int .u8 1), .lit (.int .u8 28), .lit (.int .u8 2), .lit (.int .u8 29), .lit (.int .u8 14), .lit (.int .u8 24), .lit (.int .u8 3), .lit (.int .u8 30), .lit (.int .u8 22), .lit (.int .u8 20), .lit (.int .u8 15), .lit (.int .u8 25), .lit (.int .u8 17), .lit (.int .u8 4), .lit (.int .u8 8), .lit (.int .u8 31), .lit (.int .u8 27), .lit (.int .u8 13), .lit (.int .u8 23), .lit (.int .u8 21), .lit (.int .u8 19), .lit (.int .u8 16), .lit (.int .u8 7), .lit (.int .u8 26), .lit (.int .u8 12), .lit (.int .u8 18), .lit (.int .u8 6), .lit (.int .u8 11), .lit (.int .u8 5), .lit (.int .u8 10), .lit (.int .u8 9)]
def laid_math_bits_deBruijn64tab {H : Type} : DataW H := .agg [.lit (.int .u8 0), .lit (.int .u8 1), .lit (.int .u8 56), .lit (.int .u8 2), .lit (.int .u8 57), .lit (.int .u8 49), .lit (.int .u8 28), .lit (.int .u8 3), .lit (.int .u8 61), .lit (.int .u8 58), .lit (.int .u8 42), .lit (.int .u8 50), .lit (.int .u8 38), .lit (.int .u8 29), .lit (.int .u8 17), .lit (.int .u8 4), .lit (.int .u8 62), .lit (.int .u8 47), .lit (.int .u8 59), .lit (.int .u8 36), .lit (.int .u8 45), .lit (.int .u8 43), .lit (.int .u8 51), .lit (.int .u8 22), .lit (.int .u8 53), .lit (.int .u8 39), .lit (.int .u8 33), .lit (.int .u8 30), .lit (.int .u8 24), .lit (.int .u8 18), .lit (.int .u8 12), .lit (.int .u8 5), .lit (.int .u8 63), .lit (.int .u8 55), .lit (.int .u8 48), .lit (.int .u8 27), .lit (.int .u8 60), .lit (.int .u8 41), .lit (.int .u8 37), .lit (.int .u8 16), .lit (.int .u8 46), .lit (.int .u8 35), .lit (.int .u8 44), .lit (.int .u8 21), .lit (.int .u8 52), .lit (.int .u8 32), .lit (.int .u8 23), .lit (.int .u8 11), .lit (.int .u8 54), .lit (.int .u8 26), .lit (.int .u8 40), .lit (.int .u8 15), .lit (.int .u8 34), .lit (.int .u8 20), .lit (.int .u8 31), .lit (.int .u8 10), .lit (.int .u8 25), .lit (.int .u8 14), .lit (.int .u8 19), .lit (.int .u8 9), .lit (.int .u8 13), .lit (.int .u8 8), .lit (.int .u8 7), .lit (.int .u8 6)]

/-- 'laws.FnLines': WHATEVER THE INPUT: true; the input reads as it did. -/
def fnLinesSpec : ChangeSpec := { name := "fnLines", fn := fun _ => fun
  | [d] => { results := [.lit (.bool true)], args := [d] }
  | _ => none }
def fnLinesRow : OpenClaim := { program := "ytdkdndcogdeopaadoor", sum := "7abed92d6840b5fc75751a53077546d4db8a86f93b0513c9336680dbcad6272d", func := "loop.example/clubsandmembers/laws.FnLines", spec := "fnLines", unfollowed := true, recurses := true, named := ["math/bits.deBruijn32tab", "math/bits.deBruijn64tab"], apart := false, laid := [("math/bits.deBruijn32tab", laid_math_bits_deBruijn32tab), ("math/bits.deBruijn64tab", laid_math_bits_deBruijn64tab)] }
def FnLinesSaid : Prop := fnLinesRow.holds Tryd.pinned (OpenSpec.ofChange fnLinesSpec)

/-- ITS FALSE NEIGHBOUR: 'it returns false'. Refute it at one input. -/
def fnLinesWrong : ChangeSpec := { name := "fnLines", fn := fun _ => fun
  | [d] => { results := [.lit (.bool false)], args := [d] }
  | _ => none }
def FnLinesWrongFalsely : Prop := fnLinesRow.holds Tryd.pinned (OpenSpec.ofChange fnLinesWrong)

/-- 'laws.FnRankEven': WHATEVER THE INPUT: true; the input reads as it did. -/
def fnRankEvenSpec : ChangeSpec := { name := "fnRankEven", fn := fun _ => fun
  | [d] => { results := [.lit (.bool true)], args := [d] }
  | _ => none }
def fnRankEvenRow : OpenClaim := { program := "ytdkdndcogdeopaadoor", sum := "7abed92d6840b5fc75751a53077546d4db8a86f93b0513c9336680dbcad6272d", func := "loop.example/clubsandmembers/laws.FnRankEven", spec := "fnRankEven", unfollowed := true, recurses := true, named := ["math/bits.deBruijn32tab", "math/bits.deBruijn64tab"], apart := false, laid := [("math/bits.deBruijn32tab", laid_math_bits_deBruijn32tab), ("math/bits.deBruijn64tab", laid_math_bits_deBruijn64tab)] }
def FnRankEvenSaid : Prop := fnRankEvenRow.holds Tryd.pinned (OpenSpec.ofChange fnRankEvenSpec)

/-- ITS FALSE NEIGHBOUR: 'it returns false'. Refute it at one input. -/
def fnRankEvenWrong : ChangeSpec := { name := "fnRankEven", fn := fun _ => fun
  | [d] => { results := [.lit (.bool false)], args := [d] }
  | _ => none }
def FnRankEvenWrongFalsely : Prop := fnRankEvenRow.holds Tryd.pinned (OpenSpec.ofChange fnRankEvenWrong)

/-- 'laws.FnRankWhole': WHATEVER THE INPUT: true; the input reads as it did. -/
def fnRankWholeSpec : ChangeSpec := { name := "fnRankWhole", fn := fun _ => fun
  | [d] => { results := [.lit (.bool true)], args := [d] }
  | _ => none }
def fnRankWholeRow : OpenClaim := { program := "ytdkdndcogdeopaadoor", sum := "7abed92d6840b5fc75751a53077546d4db8a86f93b0513c9336680dbcad6272d", func := "loop.example/clubsandmembers/laws.FnRankWhole", spec := "fnRankWhole", unfollowed := true, recurses := true, named := ["math/bits.deBruijn32tab", "math/bits.deBruijn64tab"], apart := false, laid := [("math/bits.deBruijn32tab", laid_math_bits_deBruijn32tab), ("math/bits.deBruijn64tab", laid_math_bits_deBruijn64tab)] }
def FnRankWholeSaid : Prop := fnRankWholeRow.holds Tryd.pinned (OpenSpec.ofChange fnRankWholeSpec)

/-- ITS FALSE NEIGHBOUR: 'it returns false'. Refute it at one input. -/
def fnRankWholeWrong : ChangeSpec := { name := "fnRankWhole", fn := fun _ => fun
  | [d] => { results := [.lit (.bool false)], args := [d] }
  | _ => none }
def FnRankWholeWrongFalsely : Prop := fnRankWholeRow.holds Tryd.pinned (OpenSpec.ofChange fnRankWholeWrong)

/-- 'laws.FnRankSum': WHATEVER THE INPUT: true; the input reads as it did. -/
def fnRankSumSpec : ChangeSpec := { name := "fnRankSum", fn := fun _ => fun
  | [d] => { results := [.lit (.bool true)], args := [d] }
  | _ => none }
def fnRankSumRow : OpenClaim := { program := "ytdkdndcogdeopaadoor", sum := "7abed92d6840b5fc75751a53077546d4db8a86f93b0513c9336680dbcad6272d", func := "loop.example/clubsandmembers/laws.FnRankSum", spec := "fnRankSum", unfollowed := true, recurses := true, named := ["math/bits.deBruijn32tab", "math/bits.deBruijn64tab"], apart := false, laid := [("math/bits.deBruijn32tab", laid_math_bits_deBruijn32tab), ("math/bits.deBruijn64tab", laid_math_bits_deBruijn64tab)] }
def FnRankSumSaid : Prop := fnRankSumRow.holds Tryd.pinned (OpenSpec.ofChange fnRankSumSpec)

/-- ITS FALSE NEIGHBOUR: 'it returns false'. Refute it at one input. -/
def fnRankSumWrong : ChangeSpec := { name := "fnRankSum", fn := fun _ => fun
  | [d] => { results := [.lit (.bool false)], args := [d] }
  | _ => none }
def FnRankSumWrongFalsely : Prop := fnRankSumRow.holds Tryd.pinned (OpenSpec.ofChange fnRankSumWrong)

/-- 'laws.FnRankSums': WHATEVER THE INPUT: true; the input reads as it did. -/
def fnRankSumsSpec : ChangeSpec := { name := "fnRankSums", fn := fun _ => fun
  | [d] => { results := [.lit (.bool true)], args := [d] }
  | _ => none }
def fnRankSumsRow : OpenClaim := { program := "ytdkdndcogdeopaadoor", sum := "7abed92d6840b5fc75751a53077546d4db8a86f93b0513c9336680dbcad6272d", func := "loop.example/clubsandmembers/laws.FnRankSums", spec := "fnRankSums", unfollowed := true, recurses := true, named := ["math/bits.deBruijn32tab", "math/bits.deBruijn64tab"], apart := false, laid := [("math/bits.deBruijn32tab", laid_math_bits_deBruijn32tab), ("math/bits.deBruijn64tab", laid_math_bits_deBruijn64tab)] }
def FnRankSumsSaid : Prop := fnRankSumsRow.holds Tryd.pinned (OpenSpec.ofChange fnRankSumsSpec)

/-- ITS FALSE NEIGHBOUR: 'it returns false'. Refute it at one input. -/
def fnRankSumsWrong : ChangeSpec := { name := "fnRankSums", fn := fun _ => fun
  | [d] => { results := [.lit (.bool false)], args := [d] }
  | _ => none }
def FnRankSumsWrongFalsely : Prop := fnRankSumsRow.holds Tryd.pinned (OpenSpec.ofChange fnRankSumsWrong)

/-- 'laws.FnRankMeets': WHATEVER THE INPUT: true; the input reads as it did. -/
def fnRankMeetsSpec : ChangeSpec := { name := "fnRankMeets", fn := fun _ => fun
  | [d] => { results := [.lit (.bool true)], args := [d] }
  | _ => none }
def fnRankMeetsRow : OpenClaim := { program := "ytdkdndcogdeopaadoor", sum := "7abed92d6840b5fc75751a53077546d4db8a86f93b0513c9336680dbcad6272d", func := "loop.example/clubsandmembers/laws.FnRankMeets", spec := "fnRankMeets", unfollowed := true, recurses := true, named := ["math/bits.deBruijn32tab", "math/bits.deBruijn64tab"], apart := false, laid := [("math/bits.deBruijn32tab", laid_math_bits_deBruijn32tab), ("math/bits.deBruijn64tab", laid_math_bits_deBruijn64tab)] }
def FnRankMeetsSaid : Prop := fnRankMeetsRow.holds Tryd.pinned (OpenSpec.ofChange fnRankMeetsSpec)

/-- ITS FALSE NEIGHBOUR: 'it returns false'. Refute it at one input. -/
def fnRankMeetsWrong : ChangeSpec := { name := "fnRankMeets", fn := fun _ => fun
  | [d] => { results := [.lit (.bool false)], args := [d] }
  | _ => none }
def FnRankMeetsWrongFalsely : Prop := fnRankMeetsRow.holds Tryd.pinned (OpenSpec.ofChange fnRankMeetsWrong)

/-- 'laws.FnSpread': WHATEVER THE INPUT: true; the input reads as it did. -/
def fnSpreadSpec : ChangeSpec := { name := "fnSpread", fn := fun _ => fun
  | [d] => { results := [.lit (.bool true)], args := [d] }
  | _ => none }
def fnSpreadRow : OpenClaim := { program := "ytdkdndcogdeopaadoor", sum := "7abed92d6840b5fc75751a53077546d4db8a86f93b0513c9336680dbcad6272d", func := "loop.example/clubsandmembers/laws.FnSpread", spec := "fnSpread", unfollowed := true, recurses := true, named := ["math/bits.deBruijn32tab", "math/bits.deBruijn64tab"], apart := false, laid := [("math/bits.deBruijn32tab", laid_math_bits_deBruijn32tab), ("math/bits.deBruijn64tab", laid_math_bits_deBruijn64tab)] }
def FnSpreadSaid : Prop := fnSpreadRow.holds Tryd.pinned (OpenSpec.ofChange fnSpreadSpec)

/-- ITS FALSE NEIGHBOUR: 'it returns false'. Refute it at one input. -/
def fnSpreadWrong : ChangeSpec := { name := "fnSpread", fn := fun _ => fun
  | [d] => { results := [.lit (.bool false)], args := [d] }
  | _ => none }
def FnSpreadWrongFalsely : Prop := fnSpreadRow.holds Tryd.pinned (OpenSpec.ofChange fnSpreadWrong)

/-- 'laws.FnOddtown': WHATEVER THE INPUT: true; the input reads as it did. -/
def fnOddtownSpec : ChangeSpec := { name := "fnOddtown", fn := fun _ => fun
  | [d] => { results := [.lit (.bool true)], args := [d] }
  | _ => none }
def fnOddtownRow : OpenClaim := { program := "ytdkdndcogdeopaadoor", sum := "7abed92d6840b5fc75751a53077546d4db8a86f93b0513c9336680dbcad6272d", func := "loop.example/clubsandmembers/laws.FnOddtown", spec := "fnOddtown", unfollowed := true, recurses := true, named := ["math/bits.deBruijn32tab", "math/bits.deBruijn64tab"], apart := false, laid := [("math/bits.deBruijn32tab", laid_math_bits_deBruijn32tab), ("math/bits.deBruijn64tab", laid_math_bits_deBruijn64tab)] }
def FnOddtownSaid : Prop := fnOddtownRow.holds Tryd.pinned (OpenSpec.ofChange fnOddtownSpec)

/-- ITS FALSE NEIGHBOUR: 'it returns false'. Refute it at one input. -/
def fnOddtownWrong : ChangeSpec := { name := "fnOddtown", fn := fun _ => fun
  | [d] => { results := [.lit (.bool false)], args := [d] }
  | _ => none }
def FnOddtownWrongFalsely : Prop := fnOddtownRow.holds Tryd.pinned (OpenSpec.ofChange fnOddtownWrong)

/-- 'laws.FnFisher': WHATEVER THE INPUT: true; the input reads as it did. -/
def fnFisherSpec : ChangeSpec := { name := "fnFisher", fn := fun _ => fun
  | [d] => { results := [.lit (.bool true)], args := [d] }
  | _ => none }
def fnFisherRow : OpenClaim := { program := "ytdkdndcogdeopaadoor", sum := "7abed92d6840b5fc75751a53077546d4db8a86f93b0513c9336680dbcad6272d", func := "loop.example/clubsandmembers/laws.FnFisher", spec := "fnFisher", unfollowed := true, recurses := true, named := ["math/bits.deBruijn32tab", "math/bits.deBruijn64tab"], apart := false, laid := [("math/bits.deBruijn32tab", laid_math_bits_deBruijn32tab), ("math/bits.deBruijn64tab", laid_math_bits_deBruijn64tab)] }
def FnFisherSaid : Prop := fnFisherRow.holds Tryd.pinned (OpenSpec.ofChange fnFisherSpec)

/-- ITS FALSE NEIGHBOUR: 'it returns false'. Refute it at one input. -/
def fnFisherWrong : ChangeSpec := { name := "fnFisher", fn := fun _ => fun
  | [d] => { results := [.lit (.bool false)], args := [d] }
  | _ => none }
def FnFisherWrongFalsely : Prop := fnFisherRow.holds Tryd.pinned (OpenSpec.ofChange fnFisherWrong)

/- THE SECOND FORM. 'bulk': how many values and letters a reading holds, each counted each time it is reached (what is shared counts as often as it is met; a slice's spare places count too). A statement '..UptoSaid' is the law's where the arguments, and the package variables that the reading takes, are together of bulk at most 1048576: NARROWER than '..Said'. Prove '..Said' where nothing that the law and all that it calls make is longer than what came in: it says more and counts as full. Else prove '..UptoSaid'. A law counts once. -/
mutual
def uptoBulk {H : Type} : DataW H → Nat
  | .lit (.string bytes) => bytes.length + 1
  | .lit _ => 1
  | .nil => 1
  | .ptr d => uptoBulk d + 1
  | .slice elems spare => uptoBulkAll elems + uptoBulkAll spare + 1
  | .agg parts => uptoBulkAll parts + 1
  | .iface _ d => uptoBulk d + 1
  | .map entries => uptoBulkEntries entries + 1
  | .held _ => 1
def uptoBulkAll {H : Type} : List (DataW H) → Nat
  | [] => 0
  | d :: r => uptoBulk d + uptoBulkAll r
def uptoBulkEntries {H : Type} : List (Lit × DataW H) → Nat
  | [] => 0
  | x :: r => uptoBulkEntry x + uptoBulkEntries r
def uptoBulkEntry {H : Type} : Lit × DataW H → Nat
  | (.string bytes, d) => bytes.length + uptoBulk d + 1
  | (_, d) => uptoBulk d + 1
 end
def uptoSmall : (H : Type) → List (DataW H) → Bool := fun _ ds => decide (uptoBulkAll ds ≤ 1048576)
def OpenSpec.upto (s : _root_.Go.ChangeSpec) : _root_.Go.OpenSpec := { _root_.Go.OpenSpec.ofChange s with cond := some uptoSmall }

/-- 'laws.FnLines', WHERE WHAT IT READS IS OF BULK AT MOST 1048576: true; the input reads as it did. -/
def fnLinesUptoRow : OpenClaim := { program := "ytdkdndcogdeopaadoor", sum := "7abed92d6840b5fc75751a53077546d4db8a86f93b0513c9336680dbcad6272d", func := "loop.example/clubsandmembers/laws.FnLines", spec := "fnLines", unfollowed := true, recurses := true, named := ["math/bits.deBruijn32tab", "math/bits.deBruijn64tab"], apart := false, laid := [("math/bits.deBruijn32tab", laid_math_bits_deBruijn32tab), ("math/bits.deBruijn64tab", laid_math_bits_deBruijn64tab)], narrowed := true }
def FnLinesUptoSaid : Prop := fnLinesUptoRow.holds Tryd.pinned (OpenSpec.upto fnLinesSpec)

/-- 'laws.FnRankEven', WHERE WHAT IT READS IS OF BULK AT MOST 1048576: true; the input reads as it did. -/
def fnRankEvenUptoRow : OpenClaim := { program := "ytdkdndcogdeopaadoor", sum := "7abed92d6840b5fc75751a53077546d4db8a86f93b0513c9336680dbcad6272d", func := "loop.example/clubsandmembers/laws.FnRankEven", spec := "fnRankEven", unfollowed := true, recurses := true, named := ["math/bits.deBruijn32tab", "math/bits.deBruijn64tab"], apart := false, laid := [("math/bits.deBruijn32tab", laid_math_bits_deBruijn32tab), ("math/bits.deBruijn64tab", laid_math_bits_deBruijn64tab)], narrowed := true }
def FnRankEvenUptoSaid : Prop := fnRankEvenUptoRow.holds Tryd.pinned (OpenSpec.upto fnRankEvenSpec)

/-- 'laws.FnRankWhole', WHERE WHAT IT READS IS OF BULK AT MOST 1048576: true; the input reads as it did. -/
def fnRankWholeUptoRow : OpenClaim := { program := "ytdkdndcogdeopaadoor", sum := "7abed92d6840b5fc75751a53077546d4db8a86f93b0513c9336680dbcad6272d", func := "loop.example/clubsandmembers/laws.FnRankWhole", spec := "fnRankWhole", unfollowed := true, recurses := true, named := ["math/bits.deBruijn32tab", "math/bits.deBruijn64tab"], apart := false, laid := [("math/bits.deBruijn32tab", laid_math_bits_deBruijn32tab), ("math/bits.deBruijn64tab", laid_math_bits_deBruijn64tab)], narrowed := true }
def FnRankWholeUptoSaid : Prop := fnRankWholeUptoRow.holds Tryd.pinned (OpenSpec.upto fnRankWholeSpec)

/-- 'laws.FnRankSum', WHERE WHAT IT READS IS OF BULK AT MOST 1048576: true; the input reads as it did. -/
def fnRankSumUptoRow : OpenClaim := { program := "ytdkdndcogdeopaadoor", sum := "7abed92d6840b5fc75751a53077546d4db8a86f93b0513c9336680dbcad6272d", func := "loop.example/clubsandmembers/laws.FnRankSum", spec := "fnRankSum", unfollowed := true, recurses := true, named := ["math/bits.deBruijn32tab", "math/bits.deBruijn64tab"], apart := false, laid := [("math/bits.deBruijn32tab", laid_math_bits_deBruijn32tab), ("math/bits.deBruijn64tab", laid_math_bits_deBruijn64tab)], narrowed := true }
def FnRankSumUptoSaid : Prop := fnRankSumUptoRow.holds Tryd.pinned (OpenSpec.upto fnRankSumSpec)

/-- 'laws.FnRankSums', WHERE WHAT IT READS IS OF BULK AT MOST 1048576: true; the input reads as it did. -/
def fnRankSumsUptoRow : OpenClaim := { program := "ytdkdndcogdeopaadoor", sum := "7abed92d6840b5fc75751a53077546d4db8a86f93b0513c9336680dbcad6272d", func := "loop.example/clubsandmembers/laws.FnRankSums", spec := "fnRankSums", unfollowed := true, recurses := true, named := ["math/bits.deBruijn32tab", "math/bits.deBruijn64tab"], apart := false, laid := [("math/bits.deBruijn32tab", laid_math_bits_deBruijn32tab), ("math/bits.deBruijn64tab", laid_math_bits_deBruijn64tab)], narrowed := true }
def FnRankSumsUptoSaid : Prop := fnRankSumsUptoRow.holds Tryd.pinned (OpenSpec.upto fnRankSumsSpec)

/-- 'laws.FnRankMeets', WHERE WHAT IT READS IS OF BULK AT MOST 1048576: true; the input reads as it did. -/
def fnRankMeetsUptoRow : OpenClaim := { program := "ytdkdndcogdeopaadoor", sum := "7abed92d6840b5fc75751a53077546d4db8a86f93b0513c9336680dbcad6272d", func := "loop.example/clubsandmembers/laws.FnRankMeets", spec := "fnRankMeets", unfollowed := true, recurses := true, named := ["math/bits.deBruijn32tab", "math/bits.deBruijn64tab"], apart := false, laid := [("math/bits.deBruijn32tab", laid_math_bits_deBruijn32tab), ("math/bits.deBruijn64tab", laid_math_bits_deBruijn64tab)], narrowed := true }
def FnRankMeetsUptoSaid : Prop := fnRankMeetsUptoRow.holds Tryd.pinned (OpenSpec.upto fnRankMeetsSpec)

/-- 'laws.FnSpread', WHERE WHAT IT READS IS OF BULK AT MOST 1048576: true; the input reads as it did. -/
def fnSpreadUptoRow : OpenClaim := { program := "ytdkdndcogdeopaadoor", sum := "7abed92d6840b5fc75751a53077546d4db8a86f93b0513c9336680dbcad6272d", func := "loop.example/clubsandmembers/laws.FnSpread", spec := "fnSpread", unfollowed := true, recurses := true, named := ["math/bits.deBruijn32tab", "math/bits.deBruijn64tab"], apart := false, laid := [("math/bits.deBruijn32tab", laid_math_bits_deBruijn32tab), ("math/bits.deBruijn64tab", laid_math_bits_deBruijn64tab)], narrowed := true }
def FnSpreadUptoSaid : Prop := fnSpreadUptoRow.holds Tryd.pinned (OpenSpec.upto fnSpreadSpec)

/-- 'laws.FnOddtown', WHERE WHAT IT READS IS OF BULK AT MOST 1048576: true; the input reads as it did. -/
def fnOddtownUptoRow : OpenClaim := { program := "ytdkdndcogdeopaadoor", sum := "7abed92d6840b5fc75751a53077546d4db8a86f93b0513c9336680dbcad6272d", func := "loop.example/clubsandmembers/laws.FnOddtown", spec := "fnOddtown", unfollowed := true, recurses := true, named := ["math/bits.deBruijn32tab", "math/bits.deBruijn64tab"], apart := false, laid := [("math/bits.deBruijn32tab", laid_math_bits_deBruijn32tab), ("math/bits.deBruijn64tab", laid_math_bits_deBruijn64tab)], narrowed := true }
def FnOddtownUptoSaid : Prop := fnOddtownUptoRow.holds Tryd.pinned (OpenSpec.upto fnOddtownSpec)

/-- 'laws.FnFisher', WHERE WHAT IT READS IS OF BULK AT MOST 1048576: true; the input reads as it did. -/
def fnFisherUptoRow : OpenClaim := { program := "ytdkdndcogdeopaadoor", sum := "7abed92d6840b5fc75751a53077546d4db8a86f93b0513c9336680dbcad6272d", func := "loop.example/clubsandmembers/laws.FnFisher", spec := "fnFisher", unfollowed := true, recurses := true, named := ["math/bits.deBruijn32tab", "math/bits.deBruijn64tab"], apart := false, laid := [("math/bits.deBruijn32tab", laid_math_bits_deBruijn32tab), ("math/bits.deBruijn64tab", laid_math_bits_deBruijn64tab)], narrowed := true }
def FnFisherUptoSaid : Prop := fnFisherUptoRow.holds Tryd.pinned (OpenSpec.upto fnFisherSpec)

end Rows
end Go.Proofs.YtdkdndcogdeopaaDoor
