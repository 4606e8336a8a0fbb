/- It is proved that a drawn family and a drawn set are the call's own; conditions: those of each statement. -/
import Derived.Deep.RegionWith
import Derived.Test.YtdkdndcogdeopaaDoorRows
import Derived.WalkKit
import Derived.WalkSpells
import Derived.ProofKit
import Derived.OpenShut
import Derived.ShutString
import Derived.ChangeOld
import Derived.Below
import Derived.Deep.RegionHeld3
import Derived.Deep.QuietTactic
import Derived.BigQuiet
import Derived.Lib.Hide
import Derived.Lib.SmallJoins
import Derived.Outline
import Derived.Laws.MakeOwn
import Derived.Laws.OwnMore
import Derived.IntWalk
import Derived.Deep.RegionLaw
import Derived.Deep.AppendLies
import Derived.RangeFuncNested
import Derived.RangeFuncBound
import Derived.RangeFuncCalls
import Derived.RangeFuncLeaves
import Derived.RangeFuncBox
import Derived.Shelf.Abstract
import Derived.Shelf.RegionOpen
import Derived.OwnWalkIn
import Derived.TacticsInMore
import Derived.LoopNIn
import Derived.LoopIn
import Derived.Maps.AppendAt
import Derived.OwnWalk
import Derived.Shelf.Spec.TrailingZeros
import Derived.Test.YtdkdndcogdeopaaDoorB
import Derived.Test.YtdkdndcogdeopaaDoorDb
import Derived.Test.YtdkdndcogdeopaaDoorDc
import Derived.Test.YtdkdndcogdeopaaDoorP
namespace Go.Proofs.YtdkdndcogdeopaaDoor
open Go.RowKit

/-- A family of the call's own, and a number. -/
def DrawnTwo (w : World) (e : Ending) (W : World) : Prop :=
  ∃ (m : Int) (a : Option Addr) (zs : List Int) (c : Nat) (x : Int), e = .returned (.tuple #[.agg #[.int .i64 m, .slice a zs.length c], .int .i64 x]) ∧ zs.length ≤ 10 ∧ OwnI W w.heap.size (.slice a zs.length c) zs ∧ Below w.heap.size w W

theorem DS.belowR {w W : World} {R : Nat} {b : Option Addr} {n cap P B : Nat} (h : DS w R b n cap P W) (hB : B ≤ R) (hs : B ≤ w.heap.size) : Below B w W :=
  (Below.refl B w).grown h.gr hs (fun g e => by injection e with e; omega)

end Go.Proofs.YtdkdndcogdeopaaDoor
