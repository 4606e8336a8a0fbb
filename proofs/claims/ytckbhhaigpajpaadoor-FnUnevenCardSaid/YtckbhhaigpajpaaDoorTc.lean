/- It is proved what FamilyDegrees of the program returns; conditions: those of each statement. -/
import Derived.Test.YtckbhhaigpajpaaDoorRows
import Derived.WalkKit
import Derived.WalkSpells
import Derived.ProofKit
import Derived.OpenShut
import Derived.ShutString
import Derived.ChangeOld
import Derived.Below
import Derived.Deep.RegionHeld3
import Derived.Deep.QuietTactic
import Derived.BigQuiet
import Derived.Lib.Hide
import Derived.Lib.SmallJoins
import Derived.Outline
import Derived.Laws.MakeOwn
import Derived.Laws.OwnMore
import Derived.IntWalk
import Derived.RangeFuncNested
import Derived.RangeFuncBound
import Derived.RangeFuncCalls
import Derived.RangeFuncLeaves
import Derived.RangeFuncBox
import Derived.Shelf.Abstract
import Derived.Shelf.RegionOpen
import Derived.OwnWalkIn
import Derived.TacticsInMore
import Derived.LoopNIn
import Derived.LoopIn
import Derived.Maps.AppendAt
import Derived.Deep.AppendLies
import Derived.Shelf.Spec.TrailingZeros
import Derived.Test.YtckbhhaigpajpaaDoorRaab
import Derived.Test.YtckbhhaigpajpaaDoorRaae
import Derived.Test.YtckbhhaigpajpaaDoorRaaf
namespace Go.Proofs.YtckbhhaigpajpaaDoor
open Go.RowKit Go.Shelf

attribute [local go_sem] Oper.semAt_some

def famDeg (m : Int) (zs : List Int) : List Int := if famIn m zs then degL m.toNat (allMem zs) else []
end Go.Proofs.YtckbhhaigpajpaaDoor
