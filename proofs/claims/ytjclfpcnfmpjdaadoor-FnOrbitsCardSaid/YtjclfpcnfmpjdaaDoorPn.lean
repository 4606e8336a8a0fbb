/- It is proved that both sides' unions and meetings of small sets are those of natural numbers; conditions: those of each statement. -/
import Derived.Test.YtjclfpcnfmpjdaaDoorRows
import Derived.WalkKit
import Derived.WalkSpells
import Derived.ProofKit
import Derived.OpenShut
import Derived.ShutString
import Derived.ChangeOld
import Derived.Below
import Derived.Deep.RegionHeld3
import Derived.Deep.QuietTactic
import Derived.BigQuiet
import Derived.Lib.Hide
import Derived.Lib.SmallJoins
import Derived.Outline
import Derived.Laws.MakeOwn
import Derived.Laws.OwnMore
import Derived.IntWalk
namespace Go.Proofs.YtjclfpcnfmpjdaaDoor
open Go.RowKit
set_option maxRecDepth 100000 in
theorem orG_fin : ∀ a b : Fin 64, bits .or .i64 (a.val : Int) (b.val : Int) = ((a.val ||| b.val : Nat) : Int) := by decide +kernel

set_option maxRecDepth 100000 in
theorem andG_fin : ∀ a b : Fin 64, bits .and .i64 (a.val : Int) (b.val : Int) = ((a.val &&& b.val : Nat) : Int) := by decide +kernel

theorem or_fin2 (a b : Nat) (ha : a < 64) (hb : b < 64) : bits .or .i64 (a : Int) (b : Int) = ((a ||| b : Nat) : Int) := orG_fin ⟨a, ha⟩ ⟨b, hb⟩
theorem and_fin2 (a b : Nat) (ha : a < 64) (hb : b < 64) : bits .and .i64 (a : Int) (b : Int) = ((a &&& b : Nat) : Int) := andG_fin ⟨a, ha⟩ ⟨b, hb⟩
end Go.Proofs.YtjclfpcnfmpjdaaDoor
