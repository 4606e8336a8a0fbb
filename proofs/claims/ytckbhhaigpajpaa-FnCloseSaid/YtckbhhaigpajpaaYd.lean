/- It is proved what the method reduced and EarReduce of the program return; conditions: those of each statement. -/
import Derived.Deep.LoopGhost
import Derived.RowKit
import Derived.Laws.CopyRow
import Derived.Lib.SlBuf
import Derived.Deep.QuietTactic
import Derived.RangeFuncNested
import Derived.RangeFuncBound
import Derived.RangeFuncCalls
import Derived.RangeFuncLeaves
import Derived.RangeFuncBox
import Derived.RangeFuncWrites
import Derived.StillTailTactics
import Derived.Maps.OwnIn
import Derived.Maps.Ext
import Derived.DeepKeys4
import Derived.MapKept
import Derived.Test.YtckbhhaigpajpaaRows
import Derived.WalkKit
import Derived.WalkSpells
import Derived.ProofKit
import Derived.OpenShut
import Derived.ShutString
import Derived.ChangeOld
import Derived.Below
import Derived.Deep.RegionHeld3
import Derived.BigQuiet
import Derived.Lib.Hide
import Derived.Lib.SmallJoins
import Derived.Outline
import Derived.Laws.MakeOwn
import Derived.Laws.OwnMore
import Derived.IntWalk
import Derived.Maps.AppendAt
import Derived.Sort.MapsRangeIn
import Derived.Deep.RegionLaw
import Derived.Deep.AppendLies
import Derived.Lib.AppendZeros
import Derived.OwnWalk
import Derived.Lib.SlicesCompact
import Derived.Lib.OwnBridge
import Derived.OrdersIn
import Derived.TacticsIn
import Derived.Shelf.Sort.Plain
import Derived.Shelf.Slices.In.SortNone
import Derived.Shelf.Slices.CompactI
import Derived.Ground.Names2Prog
import Derived.Lib.SliceRun
import Derived.Shelf.Abstract
import Derived.Shelf.RegionOpen
import Derived.OwnWalkIn
import Derived.TacticsInMore
import Derived.LoopNIn
import Derived.LoopIn
import Derived.StillTail
import Derived.StillTactics
import Derived.Shelf.Spec.TrailingZeros
import Derived.Test.YtckbhhaigpajpaaRaab
import Derived.Test.YtckbhhaigpajpaaRaaj
import Derived.Test.YtckbhhaigpajpaaKm
import Derived.Test.YtckbhhaigpajpaaRaap
namespace Go.Proofs.Ytckbhhaigpajpaa
open Go.RowKit

theorem fam_of {k : Nat} (hk1 : 1 ≤ k) (hk6 : k ≤ 6) {zs : List Int} (h8 : zs.length ≤ 8) (hz : Sets k zs) : famIn (k : Int) zs = true := by
  refine famIn_y (by simp [inB]; omega) h8 fun j hj => ?_
  obtain ⟨h0, h1⟩ := hz _ (at_in hj)
  rw [fullK k hk1 hk6]
  have := Nat.two_pow_pos k
  simp only [inB, Bool.and_eq_true, decide_eq_true_eq]
  omega

end Go.Proofs.Ytckbhhaigpajpaa
