/- It is proved what FamilyAll of the program returns, and that the call of the law FnBlocked returns true; conditions: those of each statement. -/
import Derived.RowKit
import Derived.Laws.CopyRow
import Derived.Lib.SlBuf
import Derived.Deep.QuietTactic
import Derived.RangeFuncNested
import Derived.RangeFuncBound
import Derived.RangeFuncCalls
import Derived.RangeFuncLeaves
import Derived.RangeFuncBox
import Derived.RangeFuncWrites
import Derived.StillTailTactics
import Derived.Maps.OwnIn
import Derived.Maps.Ext
import Derived.DeepKeys4
import Derived.MapKept
import Derived.Test.YtidbkegnngfpiaaDoorRows
import Derived.WalkKit
import Derived.WalkSpells
import Derived.ProofKit
import Derived.OpenShut
import Derived.ShutString
import Derived.ChangeOld
import Derived.Below
import Derived.Deep.RegionHeld3
import Derived.BigQuiet
import Derived.Lib.Hide
import Derived.Lib.SmallJoins
import Derived.Outline
import Derived.Laws.MakeOwn
import Derived.Laws.OwnMore
import Derived.IntWalk
import Derived.Maps.AppendAt
import Derived.Deep.RegionLaw
import Derived.Deep.AppendLies
import Derived.Lib.AppendZeros
import Derived.OwnWalk
import Derived.Lib.SlicesCompact
import Derived.Lib.OwnBridge
import Derived.OrdersIn
import Derived.TacticsIn
import Derived.Shelf.Sort.Plain
import Derived.Shelf.Slices.In.SortNone
import Derived.Shelf.Slices.CompactI
import Derived.Ground.Names2Prog
import Derived.Lib.SliceRun
import Derived.Shelf.RegionOpen
import Derived.Shelf.Abstract
import Derived.OwnWalkIn
import Derived.TacticsInMore
import Derived.LoopNIn
import Derived.LoopIn
import Derived.StillTail
import Derived.StillTactics
import Derived.Shelf.Spec.TrailingZeros
import Derived.Test.YtidbkegnngfpiaaDoorRaab
import Derived.Test.YtidbkegnngfpiaaDoorKs
import Derived.Test.YtidbkegnngfpiaaDoorMa
namespace Go.Proofs.YtidbkegnngfpiaaDoor
open Go.RowKit

def allZ (m : Int) (zs : List Int) : Int := if famIn m zs then ((togK zs (2 ^ zs.length - 1) : Nat) : Int) else 0
theorem placesB_any (m : Int) (a : Option Addr) (n c : Nat) (w : World) (hn : n ≤ 8) :
    Calls Tryd.prog 62 #[.agg #[.int .i64 m, .slice a n c]] w fun e w' => e = .returned (.int .i64 ((2 ^ n - 1 : Nat) : Int)) ∧ Below w.heap.size w w' :=
  (places_any m a n c w hn).mono fun _ _ h => ⟨h.1, h.2 ▸ below1 w _⟩

end Go.Proofs.YtidbkegnngfpiaaDoor
