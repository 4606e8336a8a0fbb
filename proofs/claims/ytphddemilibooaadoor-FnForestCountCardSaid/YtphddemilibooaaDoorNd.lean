/- It is proved what has, namesIn, l1Names and l1Called return; conditions: those of each statement. -/
import Derived.Deep.QuietTactic
import Derived.BigQuiet
import Derived.Test.YtphddemilibooaaDoorRows
import Derived.WalkKit
import Derived.WalkSpells
import Derived.ProofKit
import Derived.OpenShut
import Derived.ShutString
import Derived.ChangeOld
import Derived.Below
import Derived.Deep.RegionHeld3
import Derived.Lib.Hide
import Derived.Lib.SmallJoins
import Derived.Outline
import Derived.Laws.MakeOwn
import Derived.Laws.OwnMore
import Derived.IntWalk
import Derived.RangeFuncNested
import Derived.RangeFuncBound
import Derived.RangeFuncCalls
import Derived.RangeFuncLeaves
import Derived.RangeFuncBox
import Derived.Shelf.Abstract
import Derived.Shelf.RegionOpen
import Derived.OwnWalkIn
import Derived.TacticsInMore
import Derived.LoopNIn
import Derived.LoopIn
import Derived.Maps.AppendAt
import Derived.Deep.AppendLies
import Derived.OwnWalk
import Derived.StillTail
import Derived.StillTactics
import Derived.OrdersIn
import Derived.TacticsIn
import Derived.Shelf.Spec.TrailingZeros
import Derived.StillTailTactics
namespace Go.Proofs.YtphddemilibooaaDoor
open Go.RowKit

set_option maxRecDepth 100000 in
theorem has_fin : ∀ x : Fin 64, ∀ p : Fin 6, (bits BinOp.and IntKind.i64 ((x.val : Int) / 2 ^ p.val) 1 == 1) = x.val.testBit p.val := by decide +kernel

theorem has_any (x p : Nat) (hx : x < 64) (hp : p < 6) (w : World) :
    Calls Tryd.prog 40 #[.int .i64 (x : Int), .int .i64 (p : Int)] w fun e w' => e = .returned (.bool (x.testBit p)) ∧ w = w' := by
  have HH := Lib.hid (has_fin ⟨x, hx⟩ ⟨p, hp⟩)
  simp only at HH
  go_enter Tryd.func40, Tryd.ntmps40
  go_wp2
  go_ret
  exact ⟨by rw [← HH.out]; rfl, rfl⟩

end Go.Proofs.YtphddemilibooaaDoor
