/- It is proved what the iterator over a family's clubs yields where each club is a set of members; conditions: those of each statement. -/
import Derived.Test.YtdkdndcogdeopaaDoorRows
import Derived.WalkKit
import Derived.WalkSpells
import Derived.ProofKit
import Derived.OpenShut
import Derived.ShutString
import Derived.ChangeOld
import Derived.Below
import Derived.Deep.RegionHeld3
import Derived.Deep.QuietTactic
import Derived.BigQuiet
import Derived.Lib.Hide
import Derived.Lib.SmallJoins
import Derived.Outline
import Derived.Laws.MakeOwn
import Derived.Laws.OwnMore
import Derived.IntWalk
import Derived.RangeFuncNested
import Derived.RangeFuncBound
import Derived.RangeFuncCalls
import Derived.RangeFuncLeaves
import Derived.RangeFuncBox
import Derived.Shelf.Abstract
import Derived.Shelf.RegionOpen
import Derived.OwnWalkIn
import Derived.TacticsInMore
import Derived.LoopNIn
import Derived.LoopIn
import Derived.Maps.AppendAt
import Derived.Deep.AppendLies
import Derived.Shelf.Spec.TrailingZeros
namespace Go
end Go
namespace Go.Proofs.YtdkdndcogdeopaaDoor
open Go.RowKit Go.Shelf

attribute [local go_sem] Oper.semAt_some

/-- What the body of a loop over clubs knows of a club. -/
def IsClub (m : Nat) (p : Nat × Int) : Prop := p.1 < 8 ∧ 0 ≤ p.2 ∧ p.2.toNat < 2 ^ m

theorem IsClub.small {m : Nat} (hm : m ≤ 6) {p : Nat × Int} (h : IsClub m p) : p.2.toNat < 64 := Nat.lt_of_lt_of_le h.2.2 (Nat.pow_le_pow_right (by decide) hm : 2 ^ m ≤ 2 ^ 6)
/-- The clubs behind what is known of them. -/
def sets {m : Nat} (ys : List { p // IsClub m p }) : List Int := ys.map (·.1.2)

end Go.Proofs.YtdkdndcogdeopaaDoor
