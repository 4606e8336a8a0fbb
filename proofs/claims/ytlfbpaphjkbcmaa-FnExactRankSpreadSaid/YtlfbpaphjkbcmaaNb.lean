/- It is proved what the method mapped returns, by which closure it may be called; conditions: those of the statement. -/
import Derived.Test.YtlfbpaphjkbcmaaRows
import Derived.WalkKit
import Derived.WalkSpells
import Derived.ProofKit
import Derived.OpenShut
import Derived.ShutString
import Derived.ChangeOld
import Derived.Below
import Derived.Deep.RegionHeld3
import Derived.Deep.QuietTactic
import Derived.BigQuiet
import Derived.Lib.Hide
import Derived.Lib.SmallJoins
import Derived.Outline
import Derived.Laws.MakeOwn
import Derived.Laws.OwnMore
import Derived.IntWalk
import Derived.RangeFuncNested
import Derived.RangeFuncBound
import Derived.RangeFuncCalls
import Derived.RangeFuncLeaves
import Derived.RangeFuncBox
import Derived.Shelf.Abstract
import Derived.Shelf.RegionOpen
import Derived.OwnWalkIn
import Derived.TacticsInMore
import Derived.LoopNIn
import Derived.LoopIn
import Derived.Maps.AppendAt
import Derived.Deep.AppendLies
import Derived.Shelf.Spec.TrailingZeros
namespace Go.Proofs.Ytlfbpaphjkbcmaa
open Go.RowKit Go.Shelf

attribute [local go_sem] Oper.semAt_some

/-- The clubs with their places, behind what is known of them. -/
def fstOf {P : Nat × Int → Prop} (ys : List { p // P p }) : List (Nat × Int) := ys.map (·.1)

theorem fstOf_snoc {P : Nat × Int → Prop} (ys : List { p // P p }) (y : { p // P p }) : fstOf (ys ++ [y]) = fstOf ys ++ [y.1] := by simp [fstOf]
theorem fstOf_length {P : Nat × Int → Prop} (ys : List { p // P p }) : (fstOf ys).length = ys.length := by simp [fstOf]
end Go.Proofs.Ytlfbpaphjkbcmaa
