/- It is proved what FamilyDual of the model returns; conditions: those of each statement. -/
import Derived.StillTailTactics
import Derived.Test.YtgpgocijacgkhaaDoorRows
import Derived.WalkKit
import Derived.WalkSpells
import Derived.ProofKit
import Derived.OpenShut
import Derived.ShutString
import Derived.ChangeOld
import Derived.Below
import Derived.Deep.RegionHeld3
import Derived.Deep.QuietTactic
import Derived.BigQuiet
import Derived.Lib.Hide
import Derived.Lib.SmallJoins
import Derived.Outline
import Derived.Laws.MakeOwn
import Derived.Laws.OwnMore
import Derived.IntWalk
import Derived.RangeFuncNested
import Derived.RangeFuncBound
import Derived.RangeFuncCalls
import Derived.RangeFuncLeaves
import Derived.RangeFuncBox
import Derived.Shelf.Abstract
import Derived.Shelf.RegionOpen
import Derived.OwnWalkIn
import Derived.TacticsInMore
import Derived.LoopNIn
import Derived.LoopIn
import Derived.Maps.AppendAt
import Derived.Deep.AppendLies
import Derived.OwnWalk
import Derived.StillTail
import Derived.StillTactics
import Derived.OrdersIn
import Derived.TacticsIn
import Derived.Shelf.Spec.TrailingZeros
import Derived.Test.YtgpgocijacgkhaaDoorRaae
namespace Go.Proofs.YtgpgocijacgkhaaDoor
open Go.RowKit

set_option maxRecDepth 100000 in
theorem or1_fin : ∀ x : Fin 256, ∀ e : Fin 2, ∀ p : Fin 8, bits BinOp.or IntKind.i64 (x.val : Int) ((e.val : Int) * 2 ^ p.val) = ((x.val ||| (e.val * 2 ^ p.val) : Nat) : Int) := by decide +kernel

theorem or1_at (x e p : Nat) (hx : x < 256) (he : e ≤ 1) (hp : p < 8) : bits BinOp.or IntKind.i64 (x : Int) ((e : Int) * 2 ^ p) = ((x ||| (e * 2 ^ p) : Nat) : Int) := or1_fin ⟨x, hx⟩ ⟨e, by omega⟩ ⟨p, hp⟩
theorem e2_small (e p : Nat) (he : e ≤ 1) (hp : p < 8) : (e : Int) * 2 ^ p ≤ 128 ∧ 0 ≤ (e : Int) * 2 ^ p := by
  obtain ⟨h1, h2⟩ := p2_small p hp
  obtain rfl | rfl : e = 0 ∨ e = 1 := by omega
  · simp
  · simp; omega

end Go.Proofs.YtgpgocijacgkhaaDoor
