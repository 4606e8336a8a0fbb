/- It is proved how the library's table is kept, and how the members of a set are counted; conditions: those of each statement. -/
import Derived.Shelf.Spec.TrailingZeros
import Derived.Test.YtidbkegnngfpiaaRows
import Derived.WalkKit
import Derived.WalkSpells
import Derived.ProofKit
import Derived.OpenShut
import Derived.ShutString
import Derived.ChangeOld
import Derived.Below
import Derived.Deep.RegionHeld3
import Derived.Deep.QuietTactic
import Derived.BigQuiet
import Derived.Lib.Hide
import Derived.Lib.SmallJoins
import Derived.Outline
import Derived.Laws.MakeOwn
import Derived.Laws.OwnMore
import Derived.IntWalk
namespace Go.Proofs.Ytidbkegnngfpiaa
open Go.RowKit

/-- The members of a set. -/
def mem (s : Nat) : List Nat := (List.range 6).filter fun i => s.testBit i

theorem mem_length : ∀ s, s < 64 → (mem s).length ≤ 6 := by decide +kernel
end Go.Proofs.Ytidbkegnngfpiaa
