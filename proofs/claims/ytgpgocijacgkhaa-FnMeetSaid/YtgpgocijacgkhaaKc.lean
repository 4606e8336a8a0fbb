/- It is proved what missedBy and coveredBy return, and how a family in a captured variable grows; conditions: those of each statement. -/
import Derived.RowKit
import Derived.Laws.CopyRow
import Derived.Lib.SlBuf
import Derived.Deep.QuietTactic
import Derived.RangeFuncNested
import Derived.RangeFuncBound
import Derived.RangeFuncCalls
import Derived.RangeFuncLeaves
import Derived.RangeFuncBox
import Derived.RangeFuncWrites
import Derived.StillTailTactics
import Derived.Maps.OwnIn
import Derived.Maps.Ext
import Derived.DeepKeys4
import Derived.MapKept
import Derived.Test.YtgpgocijacgkhaaRows
import Derived.WalkKit
import Derived.WalkSpells
import Derived.ProofKit
import Derived.OpenShut
import Derived.ShutString
import Derived.ChangeOld
import Derived.Below
import Derived.Deep.RegionHeld3
import Derived.BigQuiet
import Derived.Lib.Hide
import Derived.Lib.SmallJoins
import Derived.Outline
import Derived.Laws.MakeOwn
import Derived.Laws.OwnMore
import Derived.IntWalk
import Derived.Deep.RegionLaw
import Derived.Deep.AppendLies
import Derived.Lib.AppendZeros
import Derived.Maps.AppendAt
import Derived.OwnWalk
import Derived.Lib.SlicesCompact
import Derived.Lib.OwnBridge
import Derived.OrdersIn
import Derived.TacticsIn
import Derived.Shelf.Sort.Plain
import Derived.Shelf.Slices.In.SortNone
import Derived.Shelf.Slices.CompactI
import Derived.Ground.Names2Prog
import Derived.Lib.SliceRun
import Derived.Shelf.Abstract
import Derived.Shelf.RegionOpen
import Derived.OwnWalkIn
import Derived.TacticsInMore
import Derived.LoopNIn
import Derived.LoopIn
import Derived.StillTail
import Derived.StillTactics
import Derived.Shelf.Spec.TrailingZeros
import Derived.Test.YtgpgocijacgkhaaKe
import Derived.Test.YtgpgocijacgkhaaSa
namespace Go.Proofs.Ytgpgocijacgkhaa
open Go.RowKit Go.Shelf

attribute [local go_sem] Oper.semAt_some

theorem obj_ne {cs cs' : Array Value} {t : TypeId} {z z' : Nat × Nat} (h : t ≠ 3) : Obj.cells cs t z ≠ Obj.cells cs' 3 z' := fun e => by injection e with _ e; exact h e
theorem HasBlk.butF {lo D l b : Nat} {A B : World} {cs : Array Value} {t : TypeId} (h : HasBlk A b cs t) (hb : ButF lo D l A B) (h1 : b ≠ l) (h2 : b ≠ D) (h3 : t ≠ 3) : HasBlk B b cs t := hb.keep h h1 h2 (fun _ _ _ => obj_ne h3)
end Go.Proofs.Ytgpgocijacgkhaa
