/- It is proved that the drawn clubs are a list of the call's own; conditions: those of each statement. -/
import Derived.Test.YtidbkegnngfpiaaDoorRows
import Derived.WalkKit
import Derived.WalkSpells
import Derived.ProofKit
import Derived.OpenShut
import Derived.ShutString
import Derived.ChangeOld
import Derived.Below
import Derived.Deep.RegionHeld3
import Derived.Deep.QuietTactic
import Derived.BigQuiet
import Derived.Lib.Hide
import Derived.Lib.SmallJoins
import Derived.Outline
import Derived.Laws.MakeOwn
import Derived.Laws.OwnMore
import Derived.IntWalk
import Derived.RangeFuncNested
import Derived.RangeFuncBound
import Derived.RangeFuncCalls
import Derived.RangeFuncLeaves
import Derived.RangeFuncBox
import Derived.Shelf.Abstract
import Derived.Shelf.RegionOpen
import Derived.OwnWalkIn
import Derived.TacticsInMore
import Derived.LoopNIn
import Derived.LoopIn
import Derived.Maps.AppendAt
import Derived.Deep.AppendLies
import Derived.OwnWalk
import Derived.Shelf.Spec.TrailingZeros
import Derived.Test.YtidbkegnngfpiaaDoorDa
import Derived.Test.YtidbkegnngfpiaaDoorRaac
namespace Go.Proofs.YtidbkegnngfpiaaDoor
open Go.RowKit

theorem Bys.kept {w W : World} {R : Nat} {b : Option Addr} {n : Nat} (h : Bys w R b n) (hR : R < w.heap.size) (hg : w.grownBy W (some R)) : Bys W R b n := by
  rcases h with h | ⟨g, off, e, hgR, hc⟩
  · exact .inl h
  · refine .inr ⟨g, off, e, hgR, fun j hj => ?_⟩
    obtain ⟨z, hz, hcz⟩ := hc j hj
    exact ⟨z, hz, (World.cell?_of_block (a := ⟨g, off + j, none⟩) (hg.block g (by omega) (fun e => by injection e; omega))).trans hcz⟩

theorem own_more {W : World} {B : Nat} {a : Option Addr} {k c : Nat} {zs : List Int} {x : Int} (h : W.ownsRow B 3 1 (.slice a k c) k (zs.map (Value.int .i64) ++ [.int .i64 x])) : OwnN W B a k c (zs ++ [x]) := by
  unfold OwnN; rw [List.map_append]; exact h

end Go.Proofs.YtidbkegnngfpiaaDoor
