/- It is proved that members that may leave first may leave later, too, so that the first choice needs no way back; conditions: those of each statement. -/
import Derived.RowKit
import Derived.Laws.CopyRow
import Derived.Lib.SlBuf
import Derived.Deep.QuietTactic
import Derived.RangeFuncNested
import Derived.RangeFuncBound
import Derived.RangeFuncCalls
import Derived.RangeFuncLeaves
import Derived.RangeFuncBox
import Derived.RangeFuncWrites
import Derived.StillTailTactics
import Derived.Maps.OwnIn
import Derived.Maps.Ext
import Derived.DeepKeys4
import Derived.MapKept
import Derived.Test.YtgjcjllhkkkioaaRows
import Derived.WalkKit
import Derived.WalkSpells
import Derived.ProofKit
import Derived.OpenShut
import Derived.ShutString
import Derived.ChangeOld
import Derived.Below
import Derived.Deep.RegionHeld3
import Derived.BigQuiet
import Derived.Lib.Hide
import Derived.Lib.SmallJoins
import Derived.Outline
import Derived.Laws.MakeOwn
import Derived.Laws.OwnMore
import Derived.IntWalk
import Derived.Deep.RegionLaw
import Derived.Deep.AppendLies
import Derived.Lib.AppendZeros
import Derived.Maps.AppendAt
import Derived.OwnWalk
import Derived.Lib.SlicesCompact
import Derived.Lib.OwnBridge
import Derived.OrdersIn
import Derived.TacticsIn
import Derived.Shelf.Sort.Plain
import Derived.Shelf.Slices.In.SortNone
import Derived.Shelf.Slices.CompactI
import Derived.Ground.Names2Prog
import Derived.Lib.SliceRun
import Derived.Shelf.Abstract
import Derived.Shelf.RegionOpen
import Derived.OwnWalkIn
import Derived.TacticsInMore
import Derived.LoopNIn
import Derived.LoopIn
import Derived.StillTail
import Derived.StillTactics
import Derived.Shelf.Spec.TrailingZeros
import Derived.Test.YtgjcjllhkkkioaaKc
import Derived.Test.YtgjcjllhkkkioaaYa
import Derived.Test.YtgjcjllhkkkioaaYb
namespace Go.Proofs.Ytgjcjllhkkkioaa
open Go.RowKit

/-- All members of the clubs with a member. -/
def arN (v : Nat) (zs : List Int) : Nat := (zs.filter (Bt v)).foldl (fun t z => t ||| z.toNat) 0

theorem arN_snoc (v : Nat) (zs : List Int) (z : Int) : arN v (zs ++ [z]) = if Bt v z = true then arN v zs ||| z.toNat else arN v zs := by
  unfold arN
  rw [List.filter_append]
  cases h : Bt v z <;> simp [h]

theorem fold_bit (i : Nat) : ∀ (l : List Int) (t : Nat), (l.foldl (fun t z => t ||| z.toNat) t).testBit i = (t.testBit i || l.any (Bt i))
  | [], t => by simp
  | z :: l, t => by rw [List.foldl_cons, fold_bit i l, Nat.testBit_or, List.any_cons, Bool.or_assoc]; rfl

theorem arN_bit (v : Nat) (zs : List Int) (i : Nat) : (arN v zs).testBit i = true ↔ ∃ z ∈ zs, Bt v z = true ∧ Bt i z = true := by
  unfold arN
  rw [fold_bit, Nat.zero_testBit, Bool.false_or, List.any_eq_true]
  constructor
  · rintro ⟨z, hz, hb⟩
    obtain ⟨h1, h2⟩ := List.mem_filter.1 hz
    exact ⟨z, h1, h2, hb⟩
  · rintro ⟨z, h1, h2, hb⟩
    exact ⟨z, List.mem_filter.2 ⟨h1, h2⟩, hb⟩

theorem arN_lt {m v : Nat} {zs : List Int} (hS : Sets m zs) : arN v zs < 2 ^ m := by
  apply Nat.lt_pow_two_of_testBit
  intro i hi
  cases hb : (arN v zs).testBit i
  · rfl
  · obtain ⟨z, hz, _, h2⟩ := (arN_bit v zs i).1 hb
    have := bt_lt (hS z hz).2 h2
    omega

end Go.Proofs.Ytgjcjllhkkkioaa
