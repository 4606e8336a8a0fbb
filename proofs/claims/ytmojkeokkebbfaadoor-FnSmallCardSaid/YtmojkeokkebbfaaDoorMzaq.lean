/- It is proved what meets and reached return; conditions: those of each statement. -/
import Derived.Test.YtmojkeokkebbfaaDoorRows
import Derived.WalkKit
import Derived.WalkSpells
import Derived.ProofKit
import Derived.OpenShut
import Derived.ShutString
import Derived.ChangeOld
import Derived.Below
import Derived.Deep.RegionHeld3
import Derived.Deep.QuietTactic
import Derived.BigQuiet
import Derived.Lib.Hide
import Derived.Lib.SmallJoins
import Derived.Outline
import Derived.Laws.MakeOwn
import Derived.Laws.OwnMore
import Derived.IntWalk
import Derived.RangeFuncNested
import Derived.RangeFuncBound
import Derived.RangeFuncCalls
import Derived.RangeFuncLeaves
import Derived.RangeFuncBox
import Derived.Shelf.Abstract
import Derived.Shelf.RegionOpen
import Derived.OwnWalkIn
import Derived.TacticsInMore
import Derived.LoopNIn
import Derived.LoopIn
import Derived.Maps.AppendAt
import Derived.Deep.AppendLies
import Derived.OwnWalk
import Derived.StillTail
import Derived.StillTactics
import Derived.OrdersIn
import Derived.TacticsIn
import Derived.Shelf.Spec.TrailingZeros
import Derived.StillTailTactics
import Derived.Deep.DeepCutAuto
import Derived.Deep.RegionLaw
import Derived.Deep.RegionWith
import Derived.Lib.AppendZeros
import Derived.Test.YtmojkeokkebbfaaDoorMzaa
namespace Go.Proofs.YtmojkeokkebbfaaDoor
open Go.RowKit Go.Shelf

attribute [local go_sem] Oper.semAt_some

set_option maxRecDepth 100000 in
theorem and_fin : ∀ x : Fin 64, ∀ y : Fin 64, bits BinOp.and IntKind.i64 (x.val : Int) (y.val : Int) = ((x.val &&& y.val : Nat) : Int) := by decide +kernel

set_option maxRecDepth 100000 in
theorem or6_fin : ∀ x : Fin 64, ∀ y : Fin 64, bits BinOp.or IntKind.i64 (x.val : Int) (y.val : Int) = ((x.val ||| y.val : Nat) : Int) := by decide +kernel

theorem and6_at (x y : Nat) (hx : x < 64) (hy : y < 64) : bits BinOp.and IntKind.i64 (x : Int) (y : Int) = ((x &&& y : Nat) : Int) := and_fin ⟨x, hx⟩ ⟨y, hy⟩
theorem or6_at (x y : Nat) (hx : x < 64) (hy : y < 64) : bits BinOp.or IntKind.i64 (x : Int) (y : Int) = ((x ||| y : Nat) : Int) := or6_fin ⟨x, hx⟩ ⟨y, hy⟩
theorem meets_any (x y : Nat) (hx : x < 64) (hy : y < 64) (w : World) :
    Calls Tryd.prog 92 #[.int .i64 (x : Int), .int .i64 (y : Int)] w fun e w' => e = .returned (.bool (!decide (x &&& y = 0))) ∧ w = w' := by
  have HA := Lib.hid (and6_at x y hx hy)
  have HE : Hid ((((x &&& y : Nat) : Int) != 0) = !decide (x &&& y = 0)) := Lib.hid (by
    by_cases h : x &&& y = 0
    · rw [h]; rfl
    · rw [decide_eq_false h, bne_iff_ne.2 (by omega)]; rfl)
  go_enter Tryd.func92, Tryd.ntmps92
  go_wp2
  go_ret
  exact ⟨by rw [← HE.out, ← HA.out]; rfl, rfl⟩

end Go.Proofs.YtmojkeokkebbfaaDoor

/- It is proved that two families drawn from bytes can be read; conditions: those of each statement. -/
namespace Go.Proofs.YtmojkeokkebbfaaDoor
open Go.RowKit

section
variable {w : World} {P X5 : Nat} {m : Int} {a : Option Addr} {xs : List Int} {c : Nat} {ra : Option Addr} {rn rc : Nat} {W W' : World}
end
theorem HasBlk.set2 {W : World} {b : Nat} {x y : Value} {t : TypeId} (h : HasBlk W b #[x, y] t) (u v : Value) : HasBlk ((W.setCell ⟨b, 0, none⟩ u).setCell ⟨b, 1, none⟩ v) b #[u, v] t :=
  heap_setCell_same _ b 1 _ t v (heap_setCell_same W b 0 _ t u h)

end Go.Proofs.YtmojkeokkebbfaaDoor
