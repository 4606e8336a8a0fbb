/- It is proved what l1None, l1With and the model's FamilyMeet return; conditions: those of each statement. -/
import Derived.Maps.AppendAt
import Derived.Deep.AppendLies
import Derived.OwnWalk
import Derived.Test.YtgaappbcekllhaaDoorRows
import Derived.WalkKit
import Derived.WalkSpells
import Derived.ProofKit
import Derived.OpenShut
import Derived.ShutString
import Derived.ChangeOld
import Derived.Below
import Derived.Deep.RegionHeld3
import Derived.Deep.QuietTactic
import Derived.BigQuiet
import Derived.Lib.Hide
import Derived.Lib.SmallJoins
import Derived.Outline
import Derived.Laws.MakeOwn
import Derived.Laws.OwnMore
import Derived.IntWalk
import Derived.Test.YtgaappbcekllhaaDoorCaab
namespace Go.Proofs.YtgaappbcekllhaaDoor
open Go.RowKit

/-- The condition of FamilyMeet. -/
def meetIn (m : Int) (zs : List Int) (x : Int) : Bool := famIn m zs && inB x 0 (fullI m)

def meetZ (m : Int) (zs : List Int) (x : Int) : List Int := if meetIn m zs x then zs.map fun z => bits .and .i64 z x else []
def meetM (m : Int) (zs : List Int) (x : Int) : Int := if meetIn m zs x then m else 0
end Go.Proofs.YtgaappbcekllhaaDoor
