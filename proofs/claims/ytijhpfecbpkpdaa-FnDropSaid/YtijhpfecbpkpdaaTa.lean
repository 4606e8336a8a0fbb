/- It is proved what TrailingZeros returns and what the iterator over a set's members yields; conditions: those of each statement. -/
import Derived.Test.YtijhpfecbpkpdaaRows
import Derived.WalkKit
import Derived.WalkSpells
import Derived.ProofKit
import Derived.OpenShut
import Derived.ShutString
import Derived.ChangeOld
import Derived.Below
import Derived.Deep.RegionHeld3
import Derived.Deep.QuietTactic
import Derived.BigQuiet
import Derived.Lib.Hide
import Derived.Lib.SmallJoins
import Derived.Outline
import Derived.Laws.MakeOwn
import Derived.Laws.OwnMore
import Derived.IntWalk
import Derived.RangeFuncNested
import Derived.RangeFuncBound
import Derived.RangeFuncCalls
import Derived.RangeFuncLeaves
import Derived.RangeFuncBox
import Derived.Shelf.Abstract
import Derived.Shelf.RegionOpen
import Derived.OwnWalkIn
import Derived.TacticsInMore
import Derived.LoopNIn
import Derived.LoopIn
import Derived.Maps.AppendAt
import Derived.Shelf.Spec.TrailingZeros
namespace Go.Proofs.Ytijhpfecbpkpdaa
open Go.RowKit Go.Shelf

attribute [local go_sem] Oper.semAt_some

/-- A member below m. -/
abbrev Mem (m : Nat) := { v : Nat // v < m }

theorem low_and (t : Nat) (h0 : t ≠ 0) (h : t < 64) : bits BinOp.and IntKind.u64 (t : Int) ((t : Int) - 1) = ((t &&& (t - 1) : Nat) : Int) := by
  rw [show (t : Int) - 1 = ((t - 1 : Nat) : Int) from by omega, bits_and_u64_nat t _ (by omega) (by omega)]

end Go.Proofs.Ytijhpfecbpkpdaa
