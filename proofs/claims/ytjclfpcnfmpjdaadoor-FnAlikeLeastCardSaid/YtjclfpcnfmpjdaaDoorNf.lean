/- It is proved what FamilyNamed of the model returns; conditions: those of each statement. -/
import Derived.Test.YtjclfpcnfmpjdaaDoorRows
import Derived.WalkKit
import Derived.WalkSpells
import Derived.ProofKit
import Derived.OpenShut
import Derived.ShutString
import Derived.ChangeOld
import Derived.Below
import Derived.Deep.RegionHeld3
import Derived.Deep.QuietTactic
import Derived.BigQuiet
import Derived.Lib.Hide
import Derived.Lib.SmallJoins
import Derived.Outline
import Derived.Laws.MakeOwn
import Derived.Laws.OwnMore
import Derived.IntWalk
import Derived.RangeFuncNested
import Derived.RangeFuncBound
import Derived.RangeFuncCalls
import Derived.RangeFuncLeaves
import Derived.RangeFuncBox
import Derived.Shelf.Abstract
import Derived.Shelf.RegionOpen
import Derived.OwnWalkIn
import Derived.TacticsInMore
import Derived.LoopNIn
import Derived.LoopIn
import Derived.Maps.AppendAt
import Derived.Deep.AppendLies
import Derived.OwnWalk
import Derived.StillTail
import Derived.StillTactics
import Derived.OrdersIn
import Derived.TacticsIn
import Derived.Shelf.Spec.TrailingZeros
import Derived.StillTailTactics
import Derived.Test.YtjclfpcnfmpjdaaDoorMo
namespace Go.Proofs.YtjclfpcnfmpjdaaDoor
open Go.RowKit

def namIn (m : Int) (zs ps : List Int) : Bool := famIn m zs && namesB m.toNat ps
def namM (m : Int) (zs ps : List Int) : Int := if namIn m zs ps then m else 0
def namZ (m : Int) (zs ps : List Int) : List Int := if namIn m zs ps then zs.map (callZ ps) else []
theorem namZ_len (m : Int) (zs ps : List Int) (h : zs.length ≤ 1048576) : (namZ m zs ps).length ≤ 1048576 := by
  unfold namZ; split <;> simp; exact h

end Go.Proofs.YtjclfpcnfmpjdaaDoor
