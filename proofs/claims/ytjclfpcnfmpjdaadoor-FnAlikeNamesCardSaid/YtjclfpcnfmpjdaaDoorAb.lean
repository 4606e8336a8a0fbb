/- It is proved what without returns; conditions: those of each statement. -/
import Derived.Test.YtjclfpcnfmpjdaaDoorRows
import Derived.WalkKit
import Derived.WalkSpells
import Derived.ProofKit
import Derived.OpenShut
import Derived.ShutString
import Derived.ChangeOld
import Derived.Below
import Derived.Deep.RegionHeld3
import Derived.Deep.QuietTactic
import Derived.BigQuiet
import Derived.Lib.Hide
import Derived.Lib.SmallJoins
import Derived.Outline
import Derived.Laws.MakeOwn
import Derived.Laws.OwnMore
import Derived.IntWalk
import Derived.RangeFuncNested
import Derived.RangeFuncBound
import Derived.RangeFuncCalls
import Derived.RangeFuncLeaves
import Derived.RangeFuncBox
import Derived.Shelf.Abstract
import Derived.Shelf.RegionOpen
import Derived.OwnWalkIn
import Derived.TacticsInMore
import Derived.LoopNIn
import Derived.LoopIn
import Derived.Maps.AppendAt
import Derived.Deep.AppendLies
import Derived.OwnWalk
import Derived.Shelf.Spec.TrailingZeros
import Derived.Test.YtjclfpcnfmpjdaaDoorMm
namespace Go.Proofs.YtjclfpcnfmpjdaaDoor
open Go.RowKit Go.Shelf

/-- A set without a member. -/
def woP (s v : Nat) : Nat := s &&& (63 - 2 ^ v)

set_option maxRecDepth 100000 in
theorem wo_fin : ∀ x : Fin 64, ∀ p : Fin 6, bits BinOp.andNot IntKind.i64 (x.val : Int) (2 ^ p.val) = ((woP x.val p.val : Nat) : Int) := by decide +kernel

theorem wo_at (x p : Nat) (hx : x < 64) (hp : p < 6) : bits BinOp.andNot IntKind.i64 (x : Int) (2 ^ p) = ((woP x p : Nat) : Int) := wo_fin ⟨x, hx⟩ ⟨p, hp⟩
set_option maxRecDepth 100000 in
theorem wo_mem_fin : ∀ x : Fin 64, ∀ p : Fin 6, mem (woP x.val p.val) = (mem x.val).erase p.val := by decide +kernel

theorem wo_mem (x p : Nat) (hx : x < 64) (hp : p < 6) : mem (woP x p) = (mem x).erase p := wo_mem_fin ⟨x, hx⟩ ⟨p, hp⟩
theorem wo_le (x p : Nat) : woP x p ≤ x := Nat.and_le_left
theorem without_any (x p : Nat) (hx : x < 64) (hp : p < 6) (w : World) :
    Calls Tryd.prog 107 #[.int .i64 (x : Int), .int .i64 (p : Int)] w fun e w' => e = .returned (.int .i64 ((woP x p : Nat) : Int)) ∧ w = w' := by
  have hp8 : (p : Int) < 8 := by omega
  obtain ⟨h1, h2⟩ := p2_small p (by omega)
  have HO := Lib.hid (wo_at x p hx hp)
  go_enter Tryd.func107, Tryd.ntmps107
  go_wp2
  go_ret
  exact ⟨by rw [HO.out]; rfl, rfl⟩

end Go.Proofs.YtjclfpcnfmpjdaaDoor
