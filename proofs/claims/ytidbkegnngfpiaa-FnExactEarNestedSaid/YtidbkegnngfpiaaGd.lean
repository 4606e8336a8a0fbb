/- It is proved that FamilyDrop of the program and of the model return the same; conditions: those of each statement. -/
import Derived.Test.YtidbkegnngfpiaaRows
import Derived.WalkKit
import Derived.WalkSpells
import Derived.ProofKit
import Derived.OpenShut
import Derived.ShutString
import Derived.ChangeOld
import Derived.Below
import Derived.Deep.RegionHeld3
import Derived.Deep.QuietTactic
import Derived.BigQuiet
import Derived.Lib.Hide
import Derived.Lib.SmallJoins
import Derived.Outline
import Derived.Laws.MakeOwn
import Derived.Laws.OwnMore
import Derived.IntWalk
import Derived.Lib.AppendZeros
import Derived.Maps.AppendAt
import Derived.Deep.AppendLies
import Derived.OwnWalk
import Derived.RangeFuncNested
import Derived.RangeFuncBound
import Derived.RangeFuncCalls
import Derived.RangeFuncLeaves
import Derived.RangeFuncBox
import Derived.Shelf.Abstract
import Derived.Shelf.RegionOpen
import Derived.OwnWalkIn
import Derived.TacticsInMore
import Derived.LoopNIn
import Derived.LoopIn
import Derived.Test.YtidbkegnngfpiaaB
import Derived.Test.YtidbkegnngfpiaaE
import Derived.Test.YtidbkegnngfpiaaGa
import Derived.Test.YtidbkegnngfpiaaGb
import Derived.Test.YtidbkegnngfpiaaK
import Derived.Test.YtidbkegnngfpiaaOw
namespace Go.Proofs.Ytidbkegnngfpiaa
open Go.RowKit

theorem Ints.some_ {w : World} {B : Nat} {a : Option Addr} {zs : List Int} (h : Ints w B a zs) (hn : 0 < zs.length) : ∃ b off, a = some ⟨b, off, none⟩ := by
  rcases h with rfl | ⟨b, off, e, _⟩
  · simp at hn
  · exact ⟨b, off, e⟩

theorem own_cap {w : World} {B : Nat} {a : Option Addr} {n cap : Nat} {zs : List Int} (h : OwnN w B a n cap zs) : n ≤ cap := by
  rcases h.2 with ⟨e, hn⟩ | ⟨g, c, cur, e, _, _, hnc, _⟩
  · omega
  · injection e with _ _ e3; omega

end Go.Proofs.Ytidbkegnngfpiaa
