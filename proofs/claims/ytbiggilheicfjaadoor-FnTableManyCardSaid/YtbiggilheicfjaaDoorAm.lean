/- It is proved what allNames yields; conditions: those of each statement. -/
import Derived.RowKit
import Derived.Laws.CopyRow
import Derived.Lib.SlBuf
import Derived.RangeFuncNested
import Derived.RangeFuncBound
import Derived.RangeFuncCalls
import Derived.RangeFuncLeaves
import Derived.RangeFuncBox
import Derived.RangeFuncWrites
import Derived.StillTailTactics
import Derived.Test.YtbiggilheicfjaaDoorRows
import Derived.WalkKit
import Derived.WalkSpells
import Derived.ProofKit
import Derived.OpenShut
import Derived.ShutString
import Derived.ChangeOld
import Derived.Below
import Derived.Deep.RegionHeld3
import Derived.Deep.QuietTactic
import Derived.BigQuiet
import Derived.Lib.Hide
import Derived.Lib.SmallJoins
import Derived.Outline
import Derived.Laws.MakeOwn
import Derived.Laws.OwnMore
import Derived.IntWalk
import Derived.Shelf.Abstract
import Derived.Shelf.RegionOpen
import Derived.OwnWalkIn
import Derived.TacticsInMore
import Derived.LoopNIn
import Derived.LoopIn
import Derived.Maps.AppendAt
import Derived.Deep.AppendLies
import Derived.OwnWalk
import Derived.StillTail
import Derived.StillTactics
import Derived.OrdersIn
import Derived.TacticsIn
import Derived.Shelf.Spec.TrailingZeros
namespace Go.Proofs.YtbiggilheicfjaaDoor
open Go.RowKit Go.Shelf

theorem store_new (w : World) (n : Nat) (hn : n = w.heap.size) (u v : Value) (t : TypeId) (hv : v.oneCell' = true) : (store ⟨n, 0, none⟩ v).run Tryd.prog (w.alloc (.cells #[u] t)) = .ok () (w.alloc (.cells #[v] t)) := by
  subst hn
  have q : Boxed (w.alloc (.cells #[u] t)) w.heap.size t u := Boxed.new w t u
  rw [run_store _ _ _ _ _ hv, q.cell]
  simp only [q.frozen]
  rw [World.setCell_alloc_new]
  rfl

end Go.Proofs.YtbiggilheicfjaaDoor
