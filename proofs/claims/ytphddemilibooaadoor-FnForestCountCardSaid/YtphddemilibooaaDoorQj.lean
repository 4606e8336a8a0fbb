/- It is proved that two families drawn from bytes can be read; conditions: those of each statement. -/
import Derived.Deep.DeepCutAuto
import Derived.Test.YtphddemilibooaaDoorRows
import Derived.WalkKit
import Derived.WalkSpells
import Derived.ProofKit
import Derived.OpenShut
import Derived.ShutString
import Derived.ChangeOld
import Derived.Below
import Derived.Deep.RegionHeld3
import Derived.Deep.QuietTactic
import Derived.BigQuiet
import Derived.Lib.Hide
import Derived.Lib.SmallJoins
import Derived.Outline
import Derived.Laws.MakeOwn
import Derived.Laws.OwnMore
import Derived.IntWalk
import Derived.Deep.RegionLaw
import Derived.Deep.AppendLies
import Derived.Deep.RegionWith
import Derived.Lib.AppendZeros
import Derived.Maps.AppendAt
import Derived.OwnWalk
import Derived.RangeFuncNested
import Derived.RangeFuncBound
import Derived.RangeFuncCalls
import Derived.RangeFuncLeaves
import Derived.RangeFuncBox
import Derived.Shelf.Abstract
import Derived.Shelf.RegionOpen
import Derived.OwnWalkIn
import Derived.TacticsInMore
import Derived.LoopNIn
import Derived.LoopIn
import Derived.StillTail
import Derived.StillTactics
import Derived.OrdersIn
import Derived.TacticsIn
import Derived.Shelf.Spec.TrailingZeros
import Derived.StillTailTactics
import Derived.Test.YtphddemilibooaaDoorRaaa
namespace Go.Proofs.YtphddemilibooaaDoor
open Go.RowKit

section
variable {w : World} {P X5 : Nat} {m : Int} {a : Option Addr} {xs : List Int} {c : Nat} {ra : Option Addr} {rn rc : Nat} {W W' : World}
end
theorem HasBlk.set2 {W : World} {b : Nat} {x y : Value} {t : TypeId} (h : HasBlk W b #[x, y] t) (u v : Value) : HasBlk ((W.setCell ⟨b, 0, none⟩ u).setCell ⟨b, 1, none⟩ v) b #[u, v] t :=
  heap_setCell_same _ b 1 _ t v (heap_setCell_same W b 0 _ t u h)

end Go.Proofs.YtphddemilibooaaDoor
