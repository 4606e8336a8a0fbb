/-
  NARROWER THAN 'FOR EVERY INPUT', by the rows' own cells (each row's printed sentence says how): FnExactCoverSets: laid · FnExactCoverClubs: laid · FnExactCoverSplit: laid · FnExactCoverSmall: laid · FnExactCoverPack: laid · FnExactCoverGreedy: laid · FnExactCoverOwn: laid · FnExactCoverFree: laid.
  DERIVED. THE GIVEN ROWS OF THIS SEAT. 8 by the template 'for every input the law returns true; each argument reads behind the call as it read before'; 0 by the template 'total and deterministic' (their statements: YtlfnjoogcenlhaaDoorTotals.lean).
  GIVEN WITH THE SEED: the statements are not yours to turn. If you find one false, say at which input.
  Laid BY PROGRAM, IN A SANDBOX (cutbox-rows.mjs): the forced cells as the released guide's own fill.sh prints them over the translation 26848626bd8d8ff7… (all of the seat's roots in one cut). By AI agents, Wed Nov 11 2026. No macro, syntax, notation, axiom, sorry.
-/
import Derived.Test.YtlfnjoogcenlhaaDoorChecked
import GoSem.Claim
import GoSem.ClaimJoined
import GoSem.ClaimMapViews
import Derived.JoinedTies
import Derived.KernelRfl
namespace Go.Proofs.YtlfnjoogcenlhaaDoor
/- THE CELL 'sum', in the pinned program and in every row, IS THE sha256 OF THE DUMP (.gsa) THAT YtlfnjoogcenlhaaDoorProg.lean LOADS. Nothing in Lean hashes anything: it is a label: what it is worth is what the hold of that sum in a sandbox is worth. -/
noncomputable def Tryd.pinned : Pinned := { name := "ytlfnjoogcenlhaadoor", sum := "26848626bd8d8ff7b87961497886ab157da012017b29c79a4154b765a00ed5fe", checked := Tryd.checked }
namespace Rows
def none {H : Type} : Left H := { results := [], args := [] }

/- WHAT THE LISTED PACKAGE-LEVEL VARIABLES READ AS WHEN THE CALL BEGINS. Each datum BY PROGRAM (the guide's laid-datum.mjs) off the statement by which the dump's own 'gosem.cut.vars' lays the variable. In a bare row this is a premise. The card (YtlfnjoogcenlhaaDoorCards.lean) ties it to the program's text. -/
def laid_math_bits_deBruijn32tab {H : Type} : DataW H := .agg [.lit (.int .u8 0), .lit (.int .u8 1), .lit (.int .u8 28), .lit (.int .u8 2), .lit (.int .u8 29), .lit (.int .u8 14), .lit (.int .u8 24), .lit (.int .u8 3), .lit (.int .u8 30), .lit (.int .u8 22), .lit (.int .u8 20), .lit (.int .u8 15), .lit (.int .u8 25), .lit (.int .u8 17), .lit (.int .u8 4), .lit (.int .u8 8), .lit (.int .u8 31), .lit (.int .u8 27), .lit (.int .u8 13), .lit (.int .u8 23), .lit (.int .u8 21), .lit (.int .u8 19), .lit (.int .u8 16), .lit (.int .u8 7), .lit (.int .u8 26), .lit (.int .u8 12), .lit (.int .u8 18), .lit (.int .u8 6), .lit (.int .u8 11), .lit (.int .u8 5), .lit (.int .u8 10), .lit (.int .u8 9)]
def laid_math_bits_deBruijn64tab {H : Type} : DataW H := .agg [.lit (.int .u8 0), .lit (.int .u8 1), .lit (.int .u8 56), .lit (.int .u8 2), .lit (.int .u8 57), .lit (.int .u8 49), .lit (.int .u8 28), .lit (.int .u8 3), .lit (.int .u8 61), .lit (.int .u8 58), .lit (.int .u8 42), .lit (.int .u8 50), .lit (.int .u8 38), .lit (.int .u8 29), .lit (.int .u8 17), .lit (.int .u8 4), .lit (.int .u8 62), .lit (.int .u8 47), .lit (.int .u8 59), .lit (.int .u8 36), .lit (.int .u8 45), .lit (.int .u8 43), .lit (.int .u8 51), .lit (.int .u8 22), .lit (.int .u8 53), .lit (.int .u8 39), .lit (.int .u8 33), .lit (.int .u8 30), .lit (.int .u8 24), .lit (.int .u8 18), .lit (.int .u8 12), .lit (.int .u8 5), .lit (.int .u8 63), .lit (.int .u8 55), .lit (.int .u8 48), .lit (.int .u8 27), .lit (.int .u8 60), .lit (.int .u8 41), .lit (.int .u8 37), .lit (.int .u8 16), .lit (.int .u8 46), .lit (.int .u8 35), .lit (.int .u8 44), .lit (.int .u8 21), .lit (.int .u8 52), .lit (.int .u8 32), .lit (.int .u8 23), .lit (.int .u8 11), .lit (.int .u8 54), .lit (.int .u8 26), .lit (.int .u8 40), .lit (.int .u8 15), .lit (.int .u8 34), .lit (.int .u8 20), .lit (.int .u8 31), .lit (.int .u8 10), .lit (.int .u8 25), .lit (.int .u8 14), .lit (.int .u8 19), .lit (.int .u8 9), .lit (.int .u8 13), .lit (.int .u8 8), .lit (.int .u8 7), .lit (.int .u8 6)]

/-- 'laws.FnExactCoverSets': WHATEVER THE INPUT: true; the input reads as it did. -/
def fnExactCoverSetsSpec : ChangeSpec := { name := "fnExactCoverSets", fn := fun _ => fun
  | [d] => { results := [.lit (.bool true)], args := [d] }
  | _ => none }
def fnExactCoverSetsRow : OpenClaim := { program := "ytlfnjoogcenlhaadoor", sum := "26848626bd8d8ff7b87961497886ab157da012017b29c79a4154b765a00ed5fe", func := "loop.example/clubsandmembers/laws.FnExactCoverSets", spec := "fnExactCoverSets", unfollowed := true, recurses := true, named := ["math/bits.deBruijn32tab", "math/bits.deBruijn64tab"], apart := false, laid := [("math/bits.deBruijn32tab", laid_math_bits_deBruijn32tab), ("math/bits.deBruijn64tab", laid_math_bits_deBruijn64tab)] }
def FnExactCoverSetsSaid : Prop := fnExactCoverSetsRow.holds Tryd.pinned (OpenSpec.ofChange fnExactCoverSetsSpec)

/-- ITS FALSE NEIGHBOUR: 'it returns false'. Refute it at one input. -/
def fnExactCoverSetsWrong : ChangeSpec := { name := "fnExactCoverSets", fn := fun _ => fun
  | [d] => { results := [.lit (.bool false)], args := [d] }
  | _ => none }
def FnExactCoverSetsWrongFalsely : Prop := fnExactCoverSetsRow.holds Tryd.pinned (OpenSpec.ofChange fnExactCoverSetsWrong)

/-- 'laws.FnExactCoverClubs': WHATEVER THE INPUT: true; the input reads as it did. -/
def fnExactCoverClubsSpec : ChangeSpec := { name := "fnExactCoverClubs", fn := fun _ => fun
  | [d] => { results := [.lit (.bool true)], args := [d] }
  | _ => none }
def fnExactCoverClubsRow : OpenClaim := { program := "ytlfnjoogcenlhaadoor", sum := "26848626bd8d8ff7b87961497886ab157da012017b29c79a4154b765a00ed5fe", func := "loop.example/clubsandmembers/laws.FnExactCoverClubs", spec := "fnExactCoverClubs", unfollowed := true, recurses := true, named := ["math/bits.deBruijn32tab", "math/bits.deBruijn64tab"], apart := false, laid := [("math/bits.deBruijn32tab", laid_math_bits_deBruijn32tab), ("math/bits.deBruijn64tab", laid_math_bits_deBruijn64tab)] }
def FnExactCoverClubsSaid : Prop := fnExactCoverClubsRow.holds Tryd.pinned (OpenSpec.ofChange fnExactCoverClubsSpec)

/-- ITS FALSE NEIGHBOUR: 'it returns false'. Refute it at one input. -/
def fnExactCoverClubsWrong : ChangeSpec := { name := "fnExactCoverClubs", fn := fun _ => fun
  | [d] => { results := [.lit (.bool false)], args := [d] }
  | _ => none }
def FnExactCoverClubsWrongFalsely : Prop := fnExactCoverClubsRow.holds Tryd.pinned (OpenSpec.ofChange fnExactCoverClubsWrong)

/-- 'laws.FnExactCoverSplit': WHATEVER THE INPUT: true; the input reads as it did. -/
def fnExactCoverSplitSpec : ChangeSpec := { name := "fnExactCoverSplit", fn := fun _ => fun
  | [d] => { results := [.lit (.bool true)], args := [d] }
  | _ => none }
def fnExactCoverSplitRow : OpenClaim := { program := "ytlfnjoogcenlhaadoor", sum := "26848626bd8d8ff7b87961497886ab157da012017b29c79a4154b765a00ed5fe", func := "loop.example/clubsandmembers/laws.FnExactCoverSplit", spec := "fnExactCoverSplit", unfollowed := true, recurses := true, named := ["math/bits.deBruijn32tab", "math/bits.deBruijn64tab"], apart := false, laid := [("math/bits.deBruijn32tab", laid_math_bits_deBruijn32tab), ("math/bits.deBruijn64tab", laid_math_bits_deBruijn64tab)] }
def FnExactCoverSplitSaid : Prop := fnExactCoverSplitRow.holds Tryd.pinned (OpenSpec.ofChange fnExactCoverSplitSpec)

/-- ITS FALSE NEIGHBOUR: 'it returns false'. Refute it at one input. -/
def fnExactCoverSplitWrong : ChangeSpec := { name := "fnExactCoverSplit", fn := fun _ => fun
  | [d] => { results := [.lit (.bool false)], args := [d] }
  | _ => none }
def FnExactCoverSplitWrongFalsely : Prop := fnExactCoverSplitRow.holds Tryd.pinned (OpenSpec.ofChange fnExactCoverSplitWrong)

/-- 'laws.FnExactCoverSmall': WHATEVER THE INPUT: true; the input reads as it did. -/
def fnExactCoverSmallSpec : ChangeSpec := { name := "fnExactCoverSmall", fn := fun _ => fun
  | [d] => { results := [.lit (.bool true)], args := [d] }
  | _ => none }
def fnExactCoverSmallRow : OpenClaim := { program := "ytlfnjoogcenlhaadoor", sum := "26848626bd8d8ff7b87961497886ab157da012017b29c79a4154b765a00ed5fe", func := "loop.example/clubsandmembers/laws.FnExactCoverSmall", spec := "fnExactCoverSmall", unfollowed := true, recurses := true, named := ["math/bits.deBruijn32tab", "math/bits.deBruijn64tab"], apart := false, laid := [("math/bits.deBruijn32tab", laid_math_bits_deBruijn32tab), ("math/bits.deBruijn64tab", laid_math_bits_deBruijn64tab)] }
def FnExactCoverSmallSaid : Prop := fnExactCoverSmallRow.holds Tryd.pinned (OpenSpec.ofChange fnExactCoverSmallSpec)

/-- ITS FALSE NEIGHBOUR: 'it returns false'. Refute it at one input. -/
def fnExactCoverSmallWrong : ChangeSpec := { name := "fnExactCoverSmall", fn := fun _ => fun
  | [d] => { results := [.lit (.bool false)], args := [d] }
  | _ => none }
def FnExactCoverSmallWrongFalsely : Prop := fnExactCoverSmallRow.holds Tryd.pinned (OpenSpec.ofChange fnExactCoverSmallWrong)

/-- 'laws.FnExactCoverPack': WHATEVER THE INPUT: true; the input reads as it did. -/
def fnExactCoverPackSpec : ChangeSpec := { name := "fnExactCoverPack", fn := fun _ => fun
  | [d] => { results := [.lit (.bool true)], args := [d] }
  | _ => none }
def fnExactCoverPackRow : OpenClaim := { program := "ytlfnjoogcenlhaadoor", sum := "26848626bd8d8ff7b87961497886ab157da012017b29c79a4154b765a00ed5fe", func := "loop.example/clubsandmembers/laws.FnExactCoverPack", spec := "fnExactCoverPack", unfollowed := true, recurses := true, named := ["math/bits.deBruijn32tab", "math/bits.deBruijn64tab"], apart := false, laid := [("math/bits.deBruijn32tab", laid_math_bits_deBruijn32tab), ("math/bits.deBruijn64tab", laid_math_bits_deBruijn64tab)] }
def FnExactCoverPackSaid : Prop := fnExactCoverPackRow.holds Tryd.pinned (OpenSpec.ofChange fnExactCoverPackSpec)

/-- ITS FALSE NEIGHBOUR: 'it returns false'. Refute it at one input. -/
def fnExactCoverPackWrong : ChangeSpec := { name := "fnExactCoverPack", fn := fun _ => fun
  | [d] => { results := [.lit (.bool false)], args := [d] }
  | _ => none }
def FnExactCoverPackWrongFalsely : Prop := fnExactCoverPackRow.holds Tryd.pinned (OpenSpec.ofChange fnExactCoverPackWrong)

/-- 'laws.FnExactCoverGreedy': WHATEVER THE INPUT: true; the input reads as it did. -/
def fnExactCoverGreedySpec : ChangeSpec := { name := "fnExactCoverGreedy", fn := fun _ => fun
  | [d] => { results := [.lit (.bool true)], args := [d] }
  | _ => none }
def fnExactCoverGreedyRow : OpenClaim := { program := "ytlfnjoogcenlhaadoor", sum := "26848626bd8d8ff7b87961497886ab157da012017b29c79a4154b765a00ed5fe", func := "loop.example/clubsandmembers/laws.FnExactCoverGreedy", spec := "fnExactCoverGreedy", unfollowed := true, recurses := true, named := ["math/bits.deBruijn32tab", "math/bits.deBruijn64tab"], apart := false, laid := [("math/bits.deBruijn32tab", laid_math_bits_deBruijn32tab), ("math/bits.deBruijn64tab", laid_math_bits_deBruijn64tab)] }
def FnExactCoverGreedySaid : Prop := fnExactCoverGreedyRow.holds Tryd.pinned (OpenSpec.ofChange fnExactCoverGreedySpec)

/-- ITS FALSE NEIGHBOUR: 'it returns false'. Refute it at one input. -/
def fnExactCoverGreedyWrong : ChangeSpec := { name := "fnExactCoverGreedy", fn := fun _ => fun
  | [d] => { results := [.lit (.bool false)], args := [d] }
  | _ => none }
def FnExactCoverGreedyWrongFalsely : Prop := fnExactCoverGreedyRow.holds Tryd.pinned (OpenSpec.ofChange fnExactCoverGreedyWrong)

/-- 'laws.FnExactCoverOwn': WHATEVER THE INPUT: true; the input reads as it did. -/
def fnExactCoverOwnSpec : ChangeSpec := { name := "fnExactCoverOwn", fn := fun _ => fun
  | [d] => { results := [.lit (.bool true)], args := [d] }
  | _ => none }
def fnExactCoverOwnRow : OpenClaim := { program := "ytlfnjoogcenlhaadoor", sum := "26848626bd8d8ff7b87961497886ab157da012017b29c79a4154b765a00ed5fe", func := "loop.example/clubsandmembers/laws.FnExactCoverOwn", spec := "fnExactCoverOwn", unfollowed := true, recurses := true, named := ["math/bits.deBruijn32tab", "math/bits.deBruijn64tab"], apart := false, laid := [("math/bits.deBruijn32tab", laid_math_bits_deBruijn32tab), ("math/bits.deBruijn64tab", laid_math_bits_deBruijn64tab)] }
def FnExactCoverOwnSaid : Prop := fnExactCoverOwnRow.holds Tryd.pinned (OpenSpec.ofChange fnExactCoverOwnSpec)

/-- ITS FALSE NEIGHBOUR: 'it returns false'. Refute it at one input. -/
def fnExactCoverOwnWrong : ChangeSpec := { name := "fnExactCoverOwn", fn := fun _ => fun
  | [d] => { results := [.lit (.bool false)], args := [d] }
  | _ => none }
def FnExactCoverOwnWrongFalsely : Prop := fnExactCoverOwnRow.holds Tryd.pinned (OpenSpec.ofChange fnExactCoverOwnWrong)

/-- 'laws.FnExactCoverFree': WHATEVER THE INPUT: true; the input reads as it did. -/
def fnExactCoverFreeSpec : ChangeSpec := { name := "fnExactCoverFree", fn := fun _ => fun
  | [d] => { results := [.lit (.bool true)], args := [d] }
  | _ => none }
def fnExactCoverFreeRow : OpenClaim := { program := "ytlfnjoogcenlhaadoor", sum := "26848626bd8d8ff7b87961497886ab157da012017b29c79a4154b765a00ed5fe", func := "loop.example/clubsandmembers/laws.FnExactCoverFree", spec := "fnExactCoverFree", unfollowed := true, recurses := true, named := ["math/bits.deBruijn32tab", "math/bits.deBruijn64tab"], apart := false, laid := [("math/bits.deBruijn32tab", laid_math_bits_deBruijn32tab), ("math/bits.deBruijn64tab", laid_math_bits_deBruijn64tab)] }
def FnExactCoverFreeSaid : Prop := fnExactCoverFreeRow.holds Tryd.pinned (OpenSpec.ofChange fnExactCoverFreeSpec)

/-- ITS FALSE NEIGHBOUR: 'it returns false'. Refute it at one input. -/
def fnExactCoverFreeWrong : ChangeSpec := { name := "fnExactCoverFree", fn := fun _ => fun
  | [d] => { results := [.lit (.bool false)], args := [d] }
  | _ => none }
def FnExactCoverFreeWrongFalsely : Prop := fnExactCoverFreeRow.holds Tryd.pinned (OpenSpec.ofChange fnExactCoverFreeWrong)

/- THE SECOND FORM. 'bulk': how many values and letters a reading holds, each counted each time it is reached (what is shared counts as often as it is met; a slice's spare places count too). A statement '..UptoSaid' is the law's where the arguments, and the package variables that the reading takes, are together of bulk at most 1048576: NARROWER than '..Said'. Prove '..Said' where nothing that the law and all that it calls make is longer than what came in: it says more and counts as full. Else prove '..UptoSaid'. A law counts once. -/
mutual
def uptoBulk {H : Type} : DataW H → Nat
  | .lit (.string bytes) => bytes.length + 1
  | .lit _ => 1
  | .nil => 1
  | .ptr d => uptoBulk d + 1
  | .slice elems spare => uptoBulkAll elems + uptoBulkAll spare + 1
  | .agg parts => uptoBulkAll parts + 1
  | .iface _ d => uptoBulk d + 1
  | .map entries => uptoBulkEntries entries + 1
  | .held _ => 1
def uptoBulkAll {H : Type} : List (DataW H) → Nat
  | [] => 0
  | d :: r => uptoBulk d + uptoBulkAll r
def uptoBulkEntries {H : Type} : List (Lit × DataW H) → Nat
  | [] => 0
  | x :: r => uptoBulkEntry x + uptoBulkEntries r
def uptoBulkEntry {H : Type} : Lit × DataW H → Nat
  | (.string bytes, d) => bytes.length + uptoBulk d + 1
  | (_, d) => uptoBulk d + 1
 end
def uptoSmall : (H : Type) → List (DataW H) → Bool := fun _ ds => decide (uptoBulkAll ds ≤ 1048576)
def OpenSpec.upto (s : _root_.Go.ChangeSpec) : _root_.Go.OpenSpec := { _root_.Go.OpenSpec.ofChange s with cond := some uptoSmall }

/-- 'laws.FnExactCoverSets', WHERE WHAT IT READS IS OF BULK AT MOST 1048576: true; the input reads as it did. -/
def fnExactCoverSetsUptoRow : OpenClaim := { program := "ytlfnjoogcenlhaadoor", sum := "26848626bd8d8ff7b87961497886ab157da012017b29c79a4154b765a00ed5fe", func := "loop.example/clubsandmembers/laws.FnExactCoverSets", spec := "fnExactCoverSets", unfollowed := true, recurses := true, named := ["math/bits.deBruijn32tab", "math/bits.deBruijn64tab"], apart := false, laid := [("math/bits.deBruijn32tab", laid_math_bits_deBruijn32tab), ("math/bits.deBruijn64tab", laid_math_bits_deBruijn64tab)], narrowed := true }
def FnExactCoverSetsUptoSaid : Prop := fnExactCoverSetsUptoRow.holds Tryd.pinned (OpenSpec.upto fnExactCoverSetsSpec)

/-- 'laws.FnExactCoverClubs', WHERE WHAT IT READS IS OF BULK AT MOST 1048576: true; the input reads as it did. -/
def fnExactCoverClubsUptoRow : OpenClaim := { program := "ytlfnjoogcenlhaadoor", sum := "26848626bd8d8ff7b87961497886ab157da012017b29c79a4154b765a00ed5fe", func := "loop.example/clubsandmembers/laws.FnExactCoverClubs", spec := "fnExactCoverClubs", unfollowed := true, recurses := true, named := ["math/bits.deBruijn32tab", "math/bits.deBruijn64tab"], apart := false, laid := [("math/bits.deBruijn32tab", laid_math_bits_deBruijn32tab), ("math/bits.deBruijn64tab", laid_math_bits_deBruijn64tab)], narrowed := true }
def FnExactCoverClubsUptoSaid : Prop := fnExactCoverClubsUptoRow.holds Tryd.pinned (OpenSpec.upto fnExactCoverClubsSpec)

/-- 'laws.FnExactCoverSplit', WHERE WHAT IT READS IS OF BULK AT MOST 1048576: true; the input reads as it did. -/
def fnExactCoverSplitUptoRow : OpenClaim := { program := "ytlfnjoogcenlhaadoor", sum := "26848626bd8d8ff7b87961497886ab157da012017b29c79a4154b765a00ed5fe", func := "loop.example/clubsandmembers/laws.FnExactCoverSplit", spec := "fnExactCoverSplit", unfollowed := true, recurses := true, named := ["math/bits.deBruijn32tab", "math/bits.deBruijn64tab"], apart := false, laid := [("math/bits.deBruijn32tab", laid_math_bits_deBruijn32tab), ("math/bits.deBruijn64tab", laid_math_bits_deBruijn64tab)], narrowed := true }
def FnExactCoverSplitUptoSaid : Prop := fnExactCoverSplitUptoRow.holds Tryd.pinned (OpenSpec.upto fnExactCoverSplitSpec)

/-- 'laws.FnExactCoverSmall', WHERE WHAT IT READS IS OF BULK AT MOST 1048576: true; the input reads as it did. -/
def fnExactCoverSmallUptoRow : OpenClaim := { program := "ytlfnjoogcenlhaadoor", sum := "26848626bd8d8ff7b87961497886ab157da012017b29c79a4154b765a00ed5fe", func := "loop.example/clubsandmembers/laws.FnExactCoverSmall", spec := "fnExactCoverSmall", unfollowed := true, recurses := true, named := ["math/bits.deBruijn32tab", "math/bits.deBruijn64tab"], apart := false, laid := [("math/bits.deBruijn32tab", laid_math_bits_deBruijn32tab), ("math/bits.deBruijn64tab", laid_math_bits_deBruijn64tab)], narrowed := true }
def FnExactCoverSmallUptoSaid : Prop := fnExactCoverSmallUptoRow.holds Tryd.pinned (OpenSpec.upto fnExactCoverSmallSpec)

/-- 'laws.FnExactCoverPack', WHERE WHAT IT READS IS OF BULK AT MOST 1048576: true; the input reads as it did. -/
def fnExactCoverPackUptoRow : OpenClaim := { program := "ytlfnjoogcenlhaadoor", sum := "26848626bd8d8ff7b87961497886ab157da012017b29c79a4154b765a00ed5fe", func := "loop.example/clubsandmembers/laws.FnExactCoverPack", spec := "fnExactCoverPack", unfollowed := true, recurses := true, named := ["math/bits.deBruijn32tab", "math/bits.deBruijn64tab"], apart := false, laid := [("math/bits.deBruijn32tab", laid_math_bits_deBruijn32tab), ("math/bits.deBruijn64tab", laid_math_bits_deBruijn64tab)], narrowed := true }
def FnExactCoverPackUptoSaid : Prop := fnExactCoverPackUptoRow.holds Tryd.pinned (OpenSpec.upto fnExactCoverPackSpec)

/-- 'laws.FnExactCoverGreedy', WHERE WHAT IT READS IS OF BULK AT MOST 1048576: true; the input reads as it did. -/
def fnExactCoverGreedyUptoRow : OpenClaim := { program := "ytlfnjoogcenlhaadoor", sum := "26848626bd8d8ff7b87961497886ab157da012017b29c79a4154b765a00ed5fe", func := "loop.example/clubsandmembers/laws.FnExactCoverGreedy", spec := "fnExactCoverGreedy", unfollowed := true, recurses := true, named := ["math/bits.deBruijn32tab", "math/bits.deBruijn64tab"], apart := false, laid := [("math/bits.deBruijn32tab", laid_math_bits_deBruijn32tab), ("math/bits.deBruijn64tab", laid_math_bits_deBruijn64tab)], narrowed := true }
def FnExactCoverGreedyUptoSaid : Prop := fnExactCoverGreedyUptoRow.holds Tryd.pinned (OpenSpec.upto fnExactCoverGreedySpec)

/-- 'laws.FnExactCoverOwn', WHERE WHAT IT READS IS OF BULK AT MOST 1048576: true; the input reads as it did. -/
def fnExactCoverOwnUptoRow : OpenClaim := { program := "ytlfnjoogcenlhaadoor", sum := "26848626bd8d8ff7b87961497886ab157da012017b29c79a4154b765a00ed5fe", func := "loop.example/clubsandmembers/laws.FnExactCoverOwn", spec := "fnExactCoverOwn", unfollowed := true, recurses := true, named := ["math/bits.deBruijn32tab", "math/bits.deBruijn64tab"], apart := false, laid := [("math/bits.deBruijn32tab", laid_math_bits_deBruijn32tab), ("math/bits.deBruijn64tab", laid_math_bits_deBruijn64tab)], narrowed := true }
def FnExactCoverOwnUptoSaid : Prop := fnExactCoverOwnUptoRow.holds Tryd.pinned (OpenSpec.upto fnExactCoverOwnSpec)

/-- 'laws.FnExactCoverFree', WHERE WHAT IT READS IS OF BULK AT MOST 1048576: true; the input reads as it did. -/
def fnExactCoverFreeUptoRow : OpenClaim := { program := "ytlfnjoogcenlhaadoor", sum := "26848626bd8d8ff7b87961497886ab157da012017b29c79a4154b765a00ed5fe", func := "loop.example/clubsandmembers/laws.FnExactCoverFree", spec := "fnExactCoverFree", unfollowed := true, recurses := true, named := ["math/bits.deBruijn32tab", "math/bits.deBruijn64tab"], apart := false, laid := [("math/bits.deBruijn32tab", laid_math_bits_deBruijn32tab), ("math/bits.deBruijn64tab", laid_math_bits_deBruijn64tab)], narrowed := true }
def FnExactCoverFreeUptoSaid : Prop := fnExactCoverFreeUptoRow.holds Tryd.pinned (OpenSpec.upto fnExactCoverFreeSpec)

end Rows
end Go.Proofs.YtlfnjoogcenlhaaDoor
