/- It is proved what l6eFree and l6eOrder return; conditions: those of each statement. -/
import Derived.RowKit
import Derived.Laws.CopyRow
import Derived.Lib.SlBuf
import Derived.Deep.QuietTactic
import Derived.RangeFuncNested
import Derived.RangeFuncBound
import Derived.RangeFuncCalls
import Derived.RangeFuncLeaves
import Derived.RangeFuncBox
import Derived.RangeFuncWrites
import Derived.StillTailTactics
import Derived.Maps.OwnIn
import Derived.Maps.Ext
import Derived.DeepKeys4
import Derived.MapKept
import Derived.Test.YtgjcjllhkkkioaaRows
import Derived.WalkKit
import Derived.WalkSpells
import Derived.ProofKit
import Derived.OpenShut
import Derived.ShutString
import Derived.ChangeOld
import Derived.Below
import Derived.Deep.RegionHeld3
import Derived.BigQuiet
import Derived.Lib.Hide
import Derived.Lib.SmallJoins
import Derived.Outline
import Derived.Laws.MakeOwn
import Derived.Laws.OwnMore
import Derived.IntWalk
import Derived.Deep.RegionLaw
import Derived.Deep.AppendLies
import Derived.Lib.AppendZeros
import Derived.Maps.AppendAt
import Derived.OwnWalk
import Derived.Lib.SlicesCompact
import Derived.Lib.OwnBridge
import Derived.OrdersIn
import Derived.TacticsIn
import Derived.Shelf.Sort.Plain
import Derived.Shelf.Slices.In.SortNone
import Derived.Shelf.Slices.CompactI
import Derived.Ground.Names2Prog
import Derived.Lib.SliceRun
import Derived.Shelf.Abstract
import Derived.Shelf.RegionOpen
import Derived.OwnWalkIn
import Derived.TacticsInMore
import Derived.LoopNIn
import Derived.LoopIn
import Derived.StillTail
import Derived.StillTactics
import Derived.Shelf.Spec.TrailingZeros
import Derived.Deep.LoopGhost
import Derived.Test.YtgjcjllhkkkioaaKc
import Derived.Test.YtgjcjllhkkkioaaYa
import Derived.Test.YtgjcjllhkkkioaaYy
namespace Go.Proofs.Ytgjcjllhkkkioaa
open Go.RowKit

theorem arN_take {v : Nat} {zs : List Int} {i : Nat} (h : i < zs.length) : arN v (zs.take (i + 1)) = if Bt v (zs[i]?.getD 0) = true then arN v (zs.take i) ||| (zs[i]?.getD 0 : Int).toNat else arN v (zs.take i) := by
  rw [List.take_succ_eq_append_getElem h, arN_snoc, List.getElem?_eq_getElem h, Option.getD_some]

theorem take_sets {m : Nat} {zs : List Int} (h : Sets m zs) (i : Nat) : Sets m (zs.take i) := fun z hz => h z (List.mem_of_mem_take hz)
end Go.Proofs.Ytgjcjllhkkkioaa
