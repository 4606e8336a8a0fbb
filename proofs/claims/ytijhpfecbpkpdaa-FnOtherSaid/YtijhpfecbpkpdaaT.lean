/- It is proved how the library's table is kept, and how the members of a set are counted; conditions: those of each statement. -/
import Derived.Shelf.Spec.TrailingZeros
import Derived.Test.YtijhpfecbpkpdaaRows
import Derived.WalkKit
import Derived.WalkSpells
import Derived.ProofKit
import Derived.OpenShut
import Derived.ShutString
import Derived.ChangeOld
import Derived.Below
import Derived.Deep.RegionHeld3
import Derived.Deep.QuietTactic
import Derived.BigQuiet
import Derived.Lib.Hide
import Derived.Lib.SmallJoins
import Derived.Outline
import Derived.Laws.MakeOwn
import Derived.Laws.OwnMore
import Derived.IntWalk
import Derived.Test.YtijhpfecbpkpdaaB
import Derived.Test.YtijhpfecbpkpdaaC
import Derived.Test.YtijhpfecbpkpdaaD
import Derived.Test.YtijhpfecbpkpdaaE
import Derived.Test.YtijhpfecbpkpdaaF
import Derived.Test.YtijhpfecbpkpdaaG
import Derived.Test.YtijhpfecbpkpdaaH
import Derived.Test.YtijhpfecbpkpdaaJ
import Derived.Test.YtijhpfecbpkpdaaK
import Derived.Test.YtijhpfecbpkpdaaL
namespace Go.Proofs.Ytijhpfecbpkpdaa
open Go.RowKit

/-- The members of a set. -/
def mem (s : Nat) : List Nat := (List.range 6).filter fun i => s.testBit i

end Go.Proofs.Ytijhpfecbpkpdaa
