/- It is proved what the FamilySizes of the model returns; conditions: those of each statement. -/
import Derived.Test.YtckbhhaigpajpaaDoorRows
import Derived.WalkKit
import Derived.WalkSpells
import Derived.ProofKit
import Derived.OpenShut
import Derived.ShutString
import Derived.ChangeOld
import Derived.Below
import Derived.Deep.RegionHeld3
import Derived.Deep.QuietTactic
import Derived.BigQuiet
import Derived.Lib.Hide
import Derived.Lib.SmallJoins
import Derived.Outline
import Derived.Laws.MakeOwn
import Derived.Laws.OwnMore
import Derived.IntWalk
import Derived.RangeFuncNested
import Derived.RangeFuncBound
import Derived.RangeFuncCalls
import Derived.RangeFuncLeaves
import Derived.RangeFuncBox
import Derived.Shelf.Abstract
import Derived.Shelf.RegionOpen
import Derived.OwnWalkIn
import Derived.TacticsInMore
import Derived.LoopNIn
import Derived.LoopIn
import Derived.Maps.AppendAt
import Derived.Deep.AppendLies
import Derived.OwnWalk
import Derived.Test.YtckbhhaigpajpaaDoorRaab
import Derived.Test.YtckbhhaigpajpaaDoorRaal
namespace Go.Proofs.YtckbhhaigpajpaaDoor
open Go.RowKit

theorem fullI_63 {m : Int} (h1 : 1 ≤ m) (h2 : m ≤ 6) : fullI m ≤ 63 := by
  rcases m16 h1 h2 with rfl | rfl | rfl | rfl | rfl | rfl <;> decide

def sizesZ (m : Int) (zs : List Int) : List Int := if famIn m zs then zs.map pop else []
end Go.Proofs.YtckbhhaigpajpaaDoor
