/- It is proved what the cut clubs so far are; conditions: those of each statement. -/
import Derived.ArgAppend
import Derived.RowKit
import Derived.Laws.CopyRow
import Derived.Lib.SlBuf
import Derived.Deep.QuietTactic
import Derived.RangeFuncNested
import Derived.RangeFuncBound
import Derived.RangeFuncCalls
import Derived.RangeFuncLeaves
import Derived.RangeFuncBox
import Derived.RangeFuncWrites
import Derived.StillTailTactics
import Derived.Maps.OwnIn
import Derived.Maps.Ext
import Derived.DeepKeys4
import Derived.MapKept
import Derived.Test.YtckbhhaigpajpaaDoorRows
import Derived.WalkKit
import Derived.WalkSpells
import Derived.ProofKit
import Derived.OpenShut
import Derived.ShutString
import Derived.ChangeOld
import Derived.Below
import Derived.Deep.RegionHeld3
import Derived.BigQuiet
import Derived.Lib.Hide
import Derived.Lib.SmallJoins
import Derived.Outline
import Derived.Laws.MakeOwn
import Derived.Laws.OwnMore
import Derived.IntWalk
import Derived.Maps.AppendAt
import Derived.Deep.RegionLaw
import Derived.Deep.AppendLies
import Derived.Lib.AppendZeros
import Derived.OwnWalk
import Derived.Lib.SlicesCompact
import Derived.Lib.OwnBridge
import Derived.OrdersIn
import Derived.TacticsIn
import Derived.Shelf.Sort.Plain
import Derived.Shelf.Slices.In.SortNone
import Derived.Shelf.Slices.CompactI
import Derived.Ground.Names2Prog
import Derived.Lib.SliceRun
import Derived.Shelf.Abstract
import Derived.Shelf.RegionOpen
import Derived.OwnWalkIn
import Derived.TacticsInMore
import Derived.LoopNIn
import Derived.LoopIn
import Derived.StillTail
import Derived.StillTactics
import Derived.Shelf.Spec.TrailingZeros
import Derived.Test.YtckbhhaigpajpaaDoorRaad
import Derived.Test.YtckbhhaigpajpaaDoorRaac
import Derived.Test.YtckbhhaigpajpaaDoorRaaf
import Derived.Test.YtckbhhaigpajpaaDoorRaaq
import Derived.Test.YtckbhhaigpajpaaDoorRaas
namespace Go.Proofs.YtckbhhaigpajpaaDoor
open Go.RowKit

def cutW (v : Nat) (z : Int) : Int := ((woP z.toNat v : Nat) : Int)
/-- The cut clubs so far. -/
def cutT (v p : Nat) (zs : List Int) (j : Nat) : List Int := zs.take p ++ ((zs.drop p).take j).map (cutW v)

structure CF (w : World) (m : Int) (g p c : Nat) (zs : List Int) (v j : Nat) (wr : World) : Prop where
  f0 : HasBlk wr w.heap.size #[.int .i64 m, .slice (some ⟨g, 0, none⟩) zs.length c] 25
  f1 : HasBlk wr (w.heap.size + 1) #[.int .i64 (v : Int), .slice (some ⟨g, 0, none⟩) p p] 25
  r : HasBlk wr (w.heap.size + 2) #[.int .i64 0, .slice none 0 0] 25
  made : ∃ (a' : Option Addr) (c' : Nat), HasBlk wr (w.heap.size + 3) #[.int .i64 (v : Int), .slice a' (p + j) c'] 25 ∧ ((j = 0 ∧ a' = some ⟨g, 0, none⟩ ∧ c' = p) ∨ (0 < j ∧ OwnN wr (w.heap.size + 4) a' (p + j) c' (cutT v p zs j)))
  below : Below w.heap.size w wr
  big : w.heap.size + 4 ≤ wr.heap.size

end Go.Proofs.YtckbhhaigpajpaaDoor
