/-
  NARROWER THAN 'FOR EVERY INPUT', by the rows' own cells (each row's printed sentence says how): FnByClubs: laid · FnBySplit: laid · FnCoverTwice: laid · FnSmall: laid · FnGreedy: laid · FnOwn: laid · FnExactCoverClubs: laid · FnExactCoverSplit: laid · FnExactCoverGreedy: laid.
  DERIVED. THE GIVEN ROWS OF THIS SEAT. 9 by the template 'for every input the law returns true; each argument reads behind the call as it read before'; 0 by the template 'total and deterministic' (their statements: YtcmpjegfikdofaaDoorTotals.lean).
  GIVEN WITH THE SEED: the statements are not yours to turn. If you find one false, say at which input.
  Laid BY PROGRAM, IN A SANDBOX (cutbox-rows.mjs): the forced cells as the released guide's own fill.sh prints them over the translation 96f2d930df6852fc… (all of the seat's roots in one cut). By AI agents, Wed Nov 11 2026. No macro, syntax, notation, axiom, sorry.
-/
import Derived.Test.YtcmpjegfikdofaaDoorChecked
import GoSem.Claim
import GoSem.ClaimJoined
import GoSem.ClaimMapViews
import Derived.JoinedTies
import Derived.KernelRfl
namespace Go.Proofs.YtcmpjegfikdofaaDoor
/- THE CELL 'sum', in the pinned program and in every row, IS THE sha256 OF THE DUMP (.gsa) THAT YtcmpjegfikdofaaDoorProg.lean LOADS. Nothing in Lean hashes anything: it is a label: what it is worth is what the hold of that sum in a sandbox is worth. -/
noncomputable def Tryd.pinned : Pinned := { name := "ytcmpjegfikdofaadoor", sum := "96f2d930df6852fc7f18847518636d2ae5c4841848940bebbcc9cb20b0f5992f", checked := Tryd.checked }
namespace Rows
def none {H : Type} : Left H := { results := [], args := [] }

/- WHAT THE LISTED PACKAGE-LEVEL VARIABLES READ AS WHEN THE CALL BEGINS. Each datum BY PROGRAM (the guide's laid-datum.mjs) off the statement by which the dump's own 'gosem.cut.vars' lays the variable. In a bare row this is a premise. The card (YtcmpjegfikdofaaDoorCards.lean) ties it to the program's text. -/
def laid_math_bits_deBruijn32tab {H : Type} : DataW H := .agg [.lit (.int .u8 0), .lit (.int .u8 1), .lit (.int .u8 28), .lit (.int .u8 2), .lit (.int .u8 29), .lit (.int .u8 14), .lit (.int .u8 24), .lit (.int .u8 3), .lit (.int .u8 30), .lit (.int .u8 22), .lit (.int .u8 20), .lit (.int .u8 15), .lit (.int .u8 25), .lit (.int .u8 17), .lit (.int .u8 4), .lit (.int .u8 8), .lit (.int .u8 31), .lit (.int .u8 27), .lit (.int .u8 13), .lit (.int .u8 23), .lit (.int .u8 21), .lit (.int .u8 19), .lit (.int .u8 16), .lit (.int .u8 7), .lit (.int .u8 26), .lit (.int .u8 12), .lit (.int .u8 18), .lit (.int .u8 6), .lit (.int .u8 11), .lit (.int .u8 5), .lit (.int .u8 10), .lit (.int .u8 9)]
def laid_math_bits_deBruijn64tab {H : Type} : DataW H := .agg [.lit (.int .u8 0), .lit (.int .u8 1), .lit (.int .u8 56), .lit (.int .u8 2), .lit (.int .u8 57), .lit (.int .u8 49), .lit (.int .u8 28), .lit (.int .u8 3), .lit (.int .u8 61), .lit (.int .u8 58), .lit (.int .u8 42), .lit (.int .u8 50), .lit (.int .u8 38), .lit (.int .u8 29), .lit (.int .u8 17), .lit (.int .u8 4), .lit (.int .u8 62), .lit (.int .u8 47), .lit (.int .u8 59), .lit (.int .u8 36), .lit (.int .u8 45), .lit (.int .u8 43), .lit (.int .u8 51), .lit (.int .u8 22), .lit (.int .u8 53), .lit (.int .u8 39), .lit (.int .u8 33), .lit (.int .u8 30), .lit (.int .u8 24), .lit (.int .u8 18), .lit (.int .u8 12), .lit (.int .u8 5), .lit (.int .u8 63), .lit (.int .u8 55), .lit (.int .u8 48), .lit (.int .u8 27), .lit (.int .u8 60), .lit (.int .u8 41), .lit (.int .u8 37), .lit (.int .u8 16), .lit (.int .u8 46), .lit (.int .u8 35), .lit (.int .u8 44), .lit (.int .u8 21), .lit (.int .u8 52), .lit (.int .u8 32), .lit (.int .u8 23), .lit (.int .u8 11), .lit (.int .u8 54), .lit (.int .u8 26), .lit (.int .u8 40), .lit (.int .u8 15), .lit (.int .u8 34), .lit (.int .u8 20), .lit (.int .u8 31), .lit (.int .u8 10), .lit (.int .u8 25), .lit (.int .u8 14), .lit (.int .u8 19), .lit (.int .u8 9), .lit (.int .u8 13), .lit (.int .u8 8), .lit (.int .u8 7), .lit (.int .u8 6)]

/-- 'laws.FnByClubs': WHATEVER THE INPUT: true; the input reads as it did. -/
def fnByClubsSpec : ChangeSpec := { name := "fnByClubs", fn := fun _ => fun
  | [d] => { results := [.lit (.bool true)], args := [d] }
  | _ => none }
def fnByClubsRow : OpenClaim := { program := "ytcmpjegfikdofaadoor", sum := "96f2d930df6852fc7f18847518636d2ae5c4841848940bebbcc9cb20b0f5992f", func := "loop.example/clubsandmembers/laws.FnByClubs", spec := "fnByClubs", unfollowed := true, recurses := true, named := ["math/bits.deBruijn32tab", "math/bits.deBruijn64tab"], apart := false, laid := [("math/bits.deBruijn32tab", laid_math_bits_deBruijn32tab), ("math/bits.deBruijn64tab", laid_math_bits_deBruijn64tab)] }
def FnByClubsSaid : Prop := fnByClubsRow.holds Tryd.pinned (OpenSpec.ofChange fnByClubsSpec)

/-- ITS FALSE NEIGHBOUR: 'it returns false'. Refute it at one input. -/
def fnByClubsWrong : ChangeSpec := { name := "fnByClubs", fn := fun _ => fun
  | [d] => { results := [.lit (.bool false)], args := [d] }
  | _ => none }
def FnByClubsWrongFalsely : Prop := fnByClubsRow.holds Tryd.pinned (OpenSpec.ofChange fnByClubsWrong)

/-- 'laws.FnBySplit': WHATEVER THE INPUT: true; the input reads as it did. -/
def fnBySplitSpec : ChangeSpec := { name := "fnBySplit", fn := fun _ => fun
  | [d] => { results := [.lit (.bool true)], args := [d] }
  | _ => none }
def fnBySplitRow : OpenClaim := { program := "ytcmpjegfikdofaadoor", sum := "96f2d930df6852fc7f18847518636d2ae5c4841848940bebbcc9cb20b0f5992f", func := "loop.example/clubsandmembers/laws.FnBySplit", spec := "fnBySplit", unfollowed := true, recurses := true, named := ["math/bits.deBruijn32tab", "math/bits.deBruijn64tab"], apart := false, laid := [("math/bits.deBruijn32tab", laid_math_bits_deBruijn32tab), ("math/bits.deBruijn64tab", laid_math_bits_deBruijn64tab)] }
def FnBySplitSaid : Prop := fnBySplitRow.holds Tryd.pinned (OpenSpec.ofChange fnBySplitSpec)

/-- ITS FALSE NEIGHBOUR: 'it returns false'. Refute it at one input. -/
def fnBySplitWrong : ChangeSpec := { name := "fnBySplit", fn := fun _ => fun
  | [d] => { results := [.lit (.bool false)], args := [d] }
  | _ => none }
def FnBySplitWrongFalsely : Prop := fnBySplitRow.holds Tryd.pinned (OpenSpec.ofChange fnBySplitWrong)

/-- 'laws.FnCoverTwice': WHATEVER THE INPUT: true; the input reads as it did. -/
def fnCoverTwiceSpec : ChangeSpec := { name := "fnCoverTwice", fn := fun _ => fun
  | [d] => { results := [.lit (.bool true)], args := [d] }
  | _ => none }
def fnCoverTwiceRow : OpenClaim := { program := "ytcmpjegfikdofaadoor", sum := "96f2d930df6852fc7f18847518636d2ae5c4841848940bebbcc9cb20b0f5992f", func := "loop.example/clubsandmembers/laws.FnCoverTwice", spec := "fnCoverTwice", unfollowed := true, recurses := true, named := ["math/bits.deBruijn32tab", "math/bits.deBruijn64tab"], apart := false, laid := [("math/bits.deBruijn32tab", laid_math_bits_deBruijn32tab), ("math/bits.deBruijn64tab", laid_math_bits_deBruijn64tab)] }
def FnCoverTwiceSaid : Prop := fnCoverTwiceRow.holds Tryd.pinned (OpenSpec.ofChange fnCoverTwiceSpec)

/-- ITS FALSE NEIGHBOUR: 'it returns false'. Refute it at one input. -/
def fnCoverTwiceWrong : ChangeSpec := { name := "fnCoverTwice", fn := fun _ => fun
  | [d] => { results := [.lit (.bool false)], args := [d] }
  | _ => none }
def FnCoverTwiceWrongFalsely : Prop := fnCoverTwiceRow.holds Tryd.pinned (OpenSpec.ofChange fnCoverTwiceWrong)

/-- 'laws.FnSmall': WHATEVER THE INPUT: true; the input reads as it did. -/
def fnSmallSpec : ChangeSpec := { name := "fnSmall", fn := fun _ => fun
  | [d] => { results := [.lit (.bool true)], args := [d] }
  | _ => none }
def fnSmallRow : OpenClaim := { program := "ytcmpjegfikdofaadoor", sum := "96f2d930df6852fc7f18847518636d2ae5c4841848940bebbcc9cb20b0f5992f", func := "loop.example/clubsandmembers/laws.FnSmall", spec := "fnSmall", unfollowed := true, recurses := true, named := ["math/bits.deBruijn32tab", "math/bits.deBruijn64tab"], apart := false, laid := [("math/bits.deBruijn32tab", laid_math_bits_deBruijn32tab), ("math/bits.deBruijn64tab", laid_math_bits_deBruijn64tab)] }
def FnSmallSaid : Prop := fnSmallRow.holds Tryd.pinned (OpenSpec.ofChange fnSmallSpec)

/-- ITS FALSE NEIGHBOUR: 'it returns false'. Refute it at one input. -/
def fnSmallWrong : ChangeSpec := { name := "fnSmall", fn := fun _ => fun
  | [d] => { results := [.lit (.bool false)], args := [d] }
  | _ => none }
def FnSmallWrongFalsely : Prop := fnSmallRow.holds Tryd.pinned (OpenSpec.ofChange fnSmallWrong)

/-- 'laws.FnGreedy': WHATEVER THE INPUT: true; the input reads as it did. -/
def fnGreedySpec : ChangeSpec := { name := "fnGreedy", fn := fun _ => fun
  | [d] => { results := [.lit (.bool true)], args := [d] }
  | _ => none }
def fnGreedyRow : OpenClaim := { program := "ytcmpjegfikdofaadoor", sum := "96f2d930df6852fc7f18847518636d2ae5c4841848940bebbcc9cb20b0f5992f", func := "loop.example/clubsandmembers/laws.FnGreedy", spec := "fnGreedy", unfollowed := true, recurses := true, named := ["math/bits.deBruijn32tab", "math/bits.deBruijn64tab"], apart := false, laid := [("math/bits.deBruijn32tab", laid_math_bits_deBruijn32tab), ("math/bits.deBruijn64tab", laid_math_bits_deBruijn64tab)] }
def FnGreedySaid : Prop := fnGreedyRow.holds Tryd.pinned (OpenSpec.ofChange fnGreedySpec)

/-- ITS FALSE NEIGHBOUR: 'it returns false'. Refute it at one input. -/
def fnGreedyWrong : ChangeSpec := { name := "fnGreedy", fn := fun _ => fun
  | [d] => { results := [.lit (.bool false)], args := [d] }
  | _ => none }
def FnGreedyWrongFalsely : Prop := fnGreedyRow.holds Tryd.pinned (OpenSpec.ofChange fnGreedyWrong)

/-- 'laws.FnOwn': WHATEVER THE INPUT: true; the input reads as it did. -/
def fnOwnSpec : ChangeSpec := { name := "fnOwn", fn := fun _ => fun
  | [d] => { results := [.lit (.bool true)], args := [d] }
  | _ => none }
def fnOwnRow : OpenClaim := { program := "ytcmpjegfikdofaadoor", sum := "96f2d930df6852fc7f18847518636d2ae5c4841848940bebbcc9cb20b0f5992f", func := "loop.example/clubsandmembers/laws.FnOwn", spec := "fnOwn", unfollowed := true, recurses := true, named := ["math/bits.deBruijn32tab", "math/bits.deBruijn64tab"], apart := false, laid := [("math/bits.deBruijn32tab", laid_math_bits_deBruijn32tab), ("math/bits.deBruijn64tab", laid_math_bits_deBruijn64tab)] }
def FnOwnSaid : Prop := fnOwnRow.holds Tryd.pinned (OpenSpec.ofChange fnOwnSpec)

/-- ITS FALSE NEIGHBOUR: 'it returns false'. Refute it at one input. -/
def fnOwnWrong : ChangeSpec := { name := "fnOwn", fn := fun _ => fun
  | [d] => { results := [.lit (.bool false)], args := [d] }
  | _ => none }
def FnOwnWrongFalsely : Prop := fnOwnRow.holds Tryd.pinned (OpenSpec.ofChange fnOwnWrong)

/-- 'laws.FnExactCoverClubs': WHATEVER THE INPUT: true; the input reads as it did. -/
def fnExactCoverClubsSpec : ChangeSpec := { name := "fnExactCoverClubs", fn := fun _ => fun
  | [d] => { results := [.lit (.bool true)], args := [d] }
  | _ => none }
def fnExactCoverClubsRow : OpenClaim := { program := "ytcmpjegfikdofaadoor", sum := "96f2d930df6852fc7f18847518636d2ae5c4841848940bebbcc9cb20b0f5992f", func := "loop.example/clubsandmembers/laws.FnExactCoverClubs", spec := "fnExactCoverClubs", unfollowed := true, recurses := true, named := ["math/bits.deBruijn32tab", "math/bits.deBruijn64tab"], apart := false, laid := [("math/bits.deBruijn32tab", laid_math_bits_deBruijn32tab), ("math/bits.deBruijn64tab", laid_math_bits_deBruijn64tab)] }
def FnExactCoverClubsSaid : Prop := fnExactCoverClubsRow.holds Tryd.pinned (OpenSpec.ofChange fnExactCoverClubsSpec)

/-- ITS FALSE NEIGHBOUR: 'it returns false'. Refute it at one input. -/
def fnExactCoverClubsWrong : ChangeSpec := { name := "fnExactCoverClubs", fn := fun _ => fun
  | [d] => { results := [.lit (.bool false)], args := [d] }
  | _ => none }
def FnExactCoverClubsWrongFalsely : Prop := fnExactCoverClubsRow.holds Tryd.pinned (OpenSpec.ofChange fnExactCoverClubsWrong)

/-- 'laws.FnExactCoverSplit': WHATEVER THE INPUT: true; the input reads as it did. -/
def fnExactCoverSplitSpec : ChangeSpec := { name := "fnExactCoverSplit", fn := fun _ => fun
  | [d] => { results := [.lit (.bool true)], args := [d] }
  | _ => none }
def fnExactCoverSplitRow : OpenClaim := { program := "ytcmpjegfikdofaadoor", sum := "96f2d930df6852fc7f18847518636d2ae5c4841848940bebbcc9cb20b0f5992f", func := "loop.example/clubsandmembers/laws.FnExactCoverSplit", spec := "fnExactCoverSplit", unfollowed := true, recurses := true, named := ["math/bits.deBruijn32tab", "math/bits.deBruijn64tab"], apart := false, laid := [("math/bits.deBruijn32tab", laid_math_bits_deBruijn32tab), ("math/bits.deBruijn64tab", laid_math_bits_deBruijn64tab)] }
def FnExactCoverSplitSaid : Prop := fnExactCoverSplitRow.holds Tryd.pinned (OpenSpec.ofChange fnExactCoverSplitSpec)

/-- ITS FALSE NEIGHBOUR: 'it returns false'. Refute it at one input. -/
def fnExactCoverSplitWrong : ChangeSpec := { name := "fnExactCoverSplit", fn := fun _ => fun
  | [d] => { results := [.lit (.bool false)], args := [d] }
  | _ => none }
def FnExactCoverSplitWrongFalsely : Prop := fnExactCoverSplitRow.holds Tryd.pinned (OpenSpec.ofChange fnExactCoverSplitWrong)

/-- 'laws.FnExactCoverGreedy': WHATEVER THE INPUT: true; the input reads as it did. -/
def fnExactCoverGreedySpec : ChangeSpec := { name := "fnExactCoverGreedy", fn := fun _ => fun
  | [d] => { results := [.lit (.bool true)], args := [d] }
  | _ => none }
def fnExactCoverGreedyRow : OpenClaim := { program := "ytcmpjegfikdofaadoor", sum := "96f2d930df6852fc7f18847518636d2ae5c4841848940bebbcc9cb20b0f5992f", func := "loop.example/clubsandmembers/laws.FnExactCoverGreedy", spec := "fnExactCoverGreedy", unfollowed := true, recurses := true, named := ["math/bits.deBruijn32tab", "math/bits.deBruijn64tab"], apart := false, laid := [("math/bits.deBruijn32tab", laid_math_bits_deBruijn32tab), ("math/bits.deBruijn64tab", laid_math_bits_deBruijn64tab)] }
def FnExactCoverGreedySaid : Prop := fnExactCoverGreedyRow.holds Tryd.pinned (OpenSpec.ofChange fnExactCoverGreedySpec)

/-- ITS FALSE NEIGHBOUR: 'it returns false'. Refute it at one input. -/
def fnExactCoverGreedyWrong : ChangeSpec := { name := "fnExactCoverGreedy", fn := fun _ => fun
  | [d] => { results := [.lit (.bool false)], args := [d] }
  | _ => none }
def FnExactCoverGreedyWrongFalsely : Prop := fnExactCoverGreedyRow.holds Tryd.pinned (OpenSpec.ofChange fnExactCoverGreedyWrong)

/- THE SECOND FORM. 'bulk': how many values and letters a reading holds, each counted each time it is reached (what is shared counts as often as it is met; a slice's spare places count too). A statement '..UptoSaid' is the law's where the arguments, and the package variables that the reading takes, are together of bulk at most 1048576: NARROWER than '..Said'. Prove '..Said' where nothing that the law and all that it calls make is longer than what came in: it says more and counts as full. Else prove '..UptoSaid'. A law counts once. -/
mutual
def uptoBulk {H : Type} : DataW H → Nat
  | .lit (.string bytes) => bytes.length + 1
  | .lit _ => 1
  | .nil => 1
  | .ptr d => uptoBulk d + 1
  | .slice elems spare => uptoBulkAll elems + uptoBulkAll spare + 1
  | .agg parts => uptoBulkAll parts + 1
  | .iface _ d => uptoBulk d + 1
  | .map entries => uptoBulkEntries entries + 1
  | .held _ => 1
def uptoBulkAll {H : Type} : List (DataW H) → Nat
  | [] => 0
  | d :: r => uptoBulk d + uptoBulkAll r
def uptoBulkEntries {H : Type} : List (Lit × DataW H) → Nat
  | [] => 0
  | x :: r => uptoBulkEntry x + uptoBulkEntries r
def uptoBulkEntry {H : Type} : Lit × DataW H → Nat
  | (.string bytes, d) => bytes.length + uptoBulk d + 1
  | (_, d) => uptoBulk d + 1
 end
def uptoSmall : (H : Type) → List (DataW H) → Bool := fun _ ds => decide (uptoBulkAll ds ≤ 1048576)
def OpenSpec.upto (s : _root_.Go.ChangeSpec) : _root_.Go.OpenSpec := { _root_.Go.OpenSpec.ofChange s with cond := some uptoSmall }

/-- 'laws.FnByClubs', WHERE WHAT IT READS IS OF BULK AT MOST 1048576: true; the input reads as it did. -/
def fnByClubsUptoRow : OpenClaim := { program := "ytcmpjegfikdofaadoor", sum := "96f2d930df6852fc7f18847518636d2ae5c4841848940bebbcc9cb20b0f5992f", func := "loop.example/clubsandmembers/laws.FnByClubs", spec := "fnByClubs", unfollowed := true, recurses := true, named := ["math/bits.deBruijn32tab", "math/bits.deBruijn64tab"], apart := false, laid := [("math/bits.deBruijn32tab", laid_math_bits_deBruijn32tab), ("math/bits.deBruijn64tab", laid_math_bits_deBruijn64tab)], narrowed := true }
def FnByClubsUptoSaid : Prop := fnByClubsUptoRow.holds Tryd.pinned (OpenSpec.upto fnByClubsSpec)

/-- 'laws.FnBySplit', WHERE WHAT IT READS IS OF BULK AT MOST 1048576: true; the input reads as it did. -/
def fnBySplitUptoRow : OpenClaim := { program := "ytcmpjegfikdofaadoor", sum := "96f2d930df6852fc7f18847518636d2ae5c4841848940bebbcc9cb20b0f5992f", func := "loop.example/clubsandmembers/laws.FnBySplit", spec := "fnBySplit", unfollowed := true, recurses := true, named := ["math/bits.deBruijn32tab", "math/bits.deBruijn64tab"], apart := false, laid := [("math/bits.deBruijn32tab", laid_math_bits_deBruijn32tab), ("math/bits.deBruijn64tab", laid_math_bits_deBruijn64tab)], narrowed := true }
def FnBySplitUptoSaid : Prop := fnBySplitUptoRow.holds Tryd.pinned (OpenSpec.upto fnBySplitSpec)

/-- 'laws.FnCoverTwice', WHERE WHAT IT READS IS OF BULK AT MOST 1048576: true; the input reads as it did. -/
def fnCoverTwiceUptoRow : OpenClaim := { program := "ytcmpjegfikdofaadoor", sum := "96f2d930df6852fc7f18847518636d2ae5c4841848940bebbcc9cb20b0f5992f", func := "loop.example/clubsandmembers/laws.FnCoverTwice", spec := "fnCoverTwice", unfollowed := true, recurses := true, named := ["math/bits.deBruijn32tab", "math/bits.deBruijn64tab"], apart := false, laid := [("math/bits.deBruijn32tab", laid_math_bits_deBruijn32tab), ("math/bits.deBruijn64tab", laid_math_bits_deBruijn64tab)], narrowed := true }
def FnCoverTwiceUptoSaid : Prop := fnCoverTwiceUptoRow.holds Tryd.pinned (OpenSpec.upto fnCoverTwiceSpec)

/-- 'laws.FnSmall', WHERE WHAT IT READS IS OF BULK AT MOST 1048576: true; the input reads as it did. -/
def fnSmallUptoRow : OpenClaim := { program := "ytcmpjegfikdofaadoor", sum := "96f2d930df6852fc7f18847518636d2ae5c4841848940bebbcc9cb20b0f5992f", func := "loop.example/clubsandmembers/laws.FnSmall", spec := "fnSmall", unfollowed := true, recurses := true, named := ["math/bits.deBruijn32tab", "math/bits.deBruijn64tab"], apart := false, laid := [("math/bits.deBruijn32tab", laid_math_bits_deBruijn32tab), ("math/bits.deBruijn64tab", laid_math_bits_deBruijn64tab)], narrowed := true }
def FnSmallUptoSaid : Prop := fnSmallUptoRow.holds Tryd.pinned (OpenSpec.upto fnSmallSpec)

/-- 'laws.FnGreedy', WHERE WHAT IT READS IS OF BULK AT MOST 1048576: true; the input reads as it did. -/
def fnGreedyUptoRow : OpenClaim := { program := "ytcmpjegfikdofaadoor", sum := "96f2d930df6852fc7f18847518636d2ae5c4841848940bebbcc9cb20b0f5992f", func := "loop.example/clubsandmembers/laws.FnGreedy", spec := "fnGreedy", unfollowed := true, recurses := true, named := ["math/bits.deBruijn32tab", "math/bits.deBruijn64tab"], apart := false, laid := [("math/bits.deBruijn32tab", laid_math_bits_deBruijn32tab), ("math/bits.deBruijn64tab", laid_math_bits_deBruijn64tab)], narrowed := true }
def FnGreedyUptoSaid : Prop := fnGreedyUptoRow.holds Tryd.pinned (OpenSpec.upto fnGreedySpec)

/-- 'laws.FnOwn', WHERE WHAT IT READS IS OF BULK AT MOST 1048576: true; the input reads as it did. -/
def fnOwnUptoRow : OpenClaim := { program := "ytcmpjegfikdofaadoor", sum := "96f2d930df6852fc7f18847518636d2ae5c4841848940bebbcc9cb20b0f5992f", func := "loop.example/clubsandmembers/laws.FnOwn", spec := "fnOwn", unfollowed := true, recurses := true, named := ["math/bits.deBruijn32tab", "math/bits.deBruijn64tab"], apart := false, laid := [("math/bits.deBruijn32tab", laid_math_bits_deBruijn32tab), ("math/bits.deBruijn64tab", laid_math_bits_deBruijn64tab)], narrowed := true }
def FnOwnUptoSaid : Prop := fnOwnUptoRow.holds Tryd.pinned (OpenSpec.upto fnOwnSpec)

/-- 'laws.FnExactCoverClubs', WHERE WHAT IT READS IS OF BULK AT MOST 1048576: true; the input reads as it did. -/
def fnExactCoverClubsUptoRow : OpenClaim := { program := "ytcmpjegfikdofaadoor", sum := "96f2d930df6852fc7f18847518636d2ae5c4841848940bebbcc9cb20b0f5992f", func := "loop.example/clubsandmembers/laws.FnExactCoverClubs", spec := "fnExactCoverClubs", unfollowed := true, recurses := true, named := ["math/bits.deBruijn32tab", "math/bits.deBruijn64tab"], apart := false, laid := [("math/bits.deBruijn32tab", laid_math_bits_deBruijn32tab), ("math/bits.deBruijn64tab", laid_math_bits_deBruijn64tab)], narrowed := true }
def FnExactCoverClubsUptoSaid : Prop := fnExactCoverClubsUptoRow.holds Tryd.pinned (OpenSpec.upto fnExactCoverClubsSpec)

/-- 'laws.FnExactCoverSplit', WHERE WHAT IT READS IS OF BULK AT MOST 1048576: true; the input reads as it did. -/
def fnExactCoverSplitUptoRow : OpenClaim := { program := "ytcmpjegfikdofaadoor", sum := "96f2d930df6852fc7f18847518636d2ae5c4841848940bebbcc9cb20b0f5992f", func := "loop.example/clubsandmembers/laws.FnExactCoverSplit", spec := "fnExactCoverSplit", unfollowed := true, recurses := true, named := ["math/bits.deBruijn32tab", "math/bits.deBruijn64tab"], apart := false, laid := [("math/bits.deBruijn32tab", laid_math_bits_deBruijn32tab), ("math/bits.deBruijn64tab", laid_math_bits_deBruijn64tab)], narrowed := true }
def FnExactCoverSplitUptoSaid : Prop := fnExactCoverSplitUptoRow.holds Tryd.pinned (OpenSpec.upto fnExactCoverSplitSpec)

/-- 'laws.FnExactCoverGreedy', WHERE WHAT IT READS IS OF BULK AT MOST 1048576: true; the input reads as it did. -/
def fnExactCoverGreedyUptoRow : OpenClaim := { program := "ytcmpjegfikdofaadoor", sum := "96f2d930df6852fc7f18847518636d2ae5c4841848940bebbcc9cb20b0f5992f", func := "loop.example/clubsandmembers/laws.FnExactCoverGreedy", spec := "fnExactCoverGreedy", unfollowed := true, recurses := true, named := ["math/bits.deBruijn32tab", "math/bits.deBruijn64tab"], apart := false, laid := [("math/bits.deBruijn32tab", laid_math_bits_deBruijn32tab), ("math/bits.deBruijn64tab", laid_math_bits_deBruijn64tab)], narrowed := true }
def FnExactCoverGreedyUptoSaid : Prop := fnExactCoverGreedyUptoRow.holds Tryd.pinned (OpenSpec.upto fnExactCoverGreedySpec)

end Rows
end Go.Proofs.YtcmpjegfikdofaaDoor
