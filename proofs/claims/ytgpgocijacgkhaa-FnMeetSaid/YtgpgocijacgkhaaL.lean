/- It is proved how boxed families keep what they hold while the laws go on; conditions: those of each statement. -/
import Derived.Test.YtgpgocijacgkhaaRows
import Derived.WalkKit
import Derived.WalkSpells
import Derived.ProofKit
import Derived.OpenShut
import Derived.ShutString
import Derived.ChangeOld
import Derived.Below
import Derived.Deep.RegionHeld3
import Derived.Deep.QuietTactic
import Derived.BigQuiet
import Derived.Lib.Hide
import Derived.Lib.SmallJoins
import Derived.Outline
import Derived.Laws.MakeOwn
import Derived.Laws.OwnMore
import Derived.IntWalk
import Derived.Test.YtgpgocijacgkhaaB
namespace Go.Proofs.Ytgpgocijacgkhaa
open Go.RowKit

/-- What a function of a family and a bool returns: both, in new memory; nothing that lay has turned. -/
def RetFB (w : World) (m : Int) (zs : List Int) (ok : Bool) (e : Ending) (w' : World) : Prop :=
  ∃ a cap, e = .returned (.tuple #[.agg #[.int .i64 m, .slice a zs.length cap], .bool ok]) ∧ OwnI w' w.heap.size (.slice a zs.length cap) zs ∧ Below w.heap.size w w'

end Go.Proofs.Ytgpgocijacgkhaa
