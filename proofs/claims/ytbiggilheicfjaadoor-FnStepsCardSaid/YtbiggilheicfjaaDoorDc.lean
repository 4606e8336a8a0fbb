/- It is proved that the drawn family is one of the call's own; conditions: those of each statement. -/
import Derived.Deep.RegionLaw
import Derived.Deep.AppendLies
import Derived.Test.YtbiggilheicfjaaDoorRows
import Derived.WalkKit
import Derived.WalkSpells
import Derived.ProofKit
import Derived.OpenShut
import Derived.ShutString
import Derived.ChangeOld
import Derived.Below
import Derived.Deep.RegionHeld3
import Derived.Deep.QuietTactic
import Derived.BigQuiet
import Derived.Lib.Hide
import Derived.Lib.SmallJoins
import Derived.Outline
import Derived.Laws.MakeOwn
import Derived.Laws.OwnMore
import Derived.IntWalk
import Derived.RangeFuncNested
import Derived.RangeFuncBound
import Derived.RangeFuncCalls
import Derived.RangeFuncLeaves
import Derived.RangeFuncBox
import Derived.Shelf.Abstract
import Derived.Shelf.RegionOpen
import Derived.OwnWalkIn
import Derived.TacticsInMore
import Derived.LoopNIn
import Derived.LoopIn
import Derived.Maps.AppendAt
import Derived.OwnWalk
import Derived.Shelf.Spec.TrailingZeros
import Derived.Test.YtbiggilheicfjaaDoorMua
namespace Go.Proofs.YtbiggilheicfjaaDoor
open Go.RowKit

theorem DS.rebase {w : World} {R : Nat} {b : Option Addr} {n cap P : Nat} {W : World} (h : DS w R b n cap P W) : DS W R b n cap P W := ⟨h.rd, World.grownBy.refl _ _⟩
theorem DS.over {w w1 W : World} {R : Nat} {b : Option Addr} {n cap P : Nat} (h : DS w1 R b n cap P W) (hg : w.grownBy w1 (some R)) : DS w R b n cap P W := ⟨h.rd, only_trans hg h.gr⟩
theorem own_drew {W : World} {B size n : Nat} {e : TypeId} {v : Value} {xs : List Value} (h : W.ownsRow B e size v n xs) : W.drew.ownsRow B e size v n xs := h
end Go.Proofs.YtbiggilheicfjaaDoor
